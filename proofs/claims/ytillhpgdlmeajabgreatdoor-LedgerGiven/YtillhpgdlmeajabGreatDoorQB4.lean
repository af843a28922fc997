/-
  The contracts of the program's Public and Sign.
-/
import Derived.Test.YtillhpgdlmeajabGreatDoorQB1
import Derived.Test.YtillhpgdlmeajabGreatDoorQB2
import Derived.Test.YtillhpgdlmeajabGreatDoorQB3
import Derived.Laws.OwnMore
import Derived.ChangeSame
import Derived.Deep.MidRow
import Derived.Laws.ResultCell
import Derived.Laws.Rows
import Derived.Lib.SlBytesConst
namespace Go.Proofs.YtillhpgdlmeajabGreatDoor
open Go.RowKit
open Go.Proofs
theorem ptsP_small (bs : List Int) (key : Int) (c : Nat → Nat → Bool) (n : Nat) : ∀ x ∈ ptsP bs key c n, x.length ≤ 1000000 := by
  intro x hx
  unfold ptsP at hx
  obtain ⟨i, _, rfl⟩ := List.mem_map.1 hx
  rw [ptP_len]; omega
set_option maxRecDepth 100000 in
set_option maxHeartbeats 1000000 in
theorem public_any (vb : Value) (bs : List Int) (key : Int) (r : List Int) (hr : r = pubP bs key) (w : World) (hS : Sl w vb bs) (hB : Bs bs) (hl : bs.length ≤ 1000) (hG : Gl w) :
    Calls Tryz.prog 132 #[vb, .int .i64 key] w fun e w' => ∃ ao m c, e = .returned (.slice ao m c) ∧ Row w' w.heap.size (.slice ao m c) r ∧ Kp [] w w' := by
  have HC := hide (partsOf_any vb bs key noneC 129 #[] (enters_of Tryz.func129 (by kernel_rfl) rfl) w hS hB hl hG (fun j _ w' _ => bothShown_any (j : Nat) w'))
  have HG := hide hG
  have HR := hide hr
  obtain ⟨ab, cb, hvb, _⟩ := hS
  obtain ⟨nb, hnb⟩ : ∃ n, n = bs.length := ⟨_, rfl⟩
  rw [← hnb] at hvb
  subst hvb
  clear hG hB hr hnb
  go_enter Tryz.func132, Tryz.ntmps132
  go_wp2_with fail
  refine (unhide HC).mono ?_
  rintro ee w2 ⟨a2, m2, c2, rfl, A2⟩
  obtain ⟨l, hL, hl2⟩ := A2.lists (by rw [ptsP_len]; omega)
  have HK2 := hide A2.kp
  have HP := hide (publicOf_any _ l r (by rw [unhide HR, cat_map hl2]; rfl) w2 hL (by rw [← List.length_map (f := (·.2)), hl2, ptsP_len]; omega) (small_of_map hl2 (ptsP_small _ _ _ _)) ((unhide HG).kept (unhide HK2) (by simp)))
  clear HC A2 hL hl2
  go_wp2_with fail
  refine (unhide HP).mono ?_
  rintro ee w3 ⟨a3, m3, c3, rfl, R3, K3⟩
  have HR3 := hide (row_new R3 (unhide HK2))
  have HK3 := hide ((unhide HK2).trans K3)
  clear HP HK2 R3 K3
  go_wp2_with fail
  go_ret
  exact ⟨a3, m3, c3, rfl, unhide HR3, unhide HK3⟩
set_option maxRecDepth 100000 in
set_option maxHeartbeats 1000000 in
theorem sign_any (vb : Value) (bs : List Int) (key : Int) (vm : Value) (ms : List Int) (d : Int) (hd : d = digP ms) (w : World) (hS : Sl w vb bs) (hB : Bs bs) (hl : bs.length ≤ 1000) (hM : Sl w vm ms) (hMB : Bs ms) (hml : ms.length ≤ 1000) (hG : Gl w) :
    Calls Tryz.prog 112 #[vb, .int .i64 key, vm] w fun e w' => ∃ ao m c, e = .returned (.slice ao m c) ∧ Acc w (sgnP bs key d) (.slice ao m c) w' := by
  have h0 : 0 ≤ d := by rw [hd]; exact (digP_bd ms).1
  have HD := hide (digest_any vm ms d hd w hM hMB (by omega) hG)
  have HG := hide hG
  have HS := hide hS
  have HB := hide hB
  obtain ⟨ab, cb, hvb, _⟩ := hS
  obtain ⟨nb, hnb⟩ : ∃ n, n = bs.length := ⟨_, rfl⟩
  rw [← hnb] at hvb
  subst hvb
  obtain ⟨am, cm, hvm, _⟩ := hM
  obtain ⟨nm, hnm⟩ : ∃ n, n = ms.length := ⟨_, rfl⟩
  rw [← hnm] at hvm
  subst hvm
  clear hG hB hnb hnm hMB hd
  go_enter Tryz.func112, Tryz.ntmps112
  go_wp2_with fail
  refine (unhide HD).mono ?_
  rintro ee w2 ⟨rfl, K2⟩
  have HK2 := hide K2
  clear HD K2
  go_wp2_with fail
  have K3 := (Kp.refl [] w2).alloc (.cells #[.int .u32 d] 91)
  refine (partsOf_any _ bs key (digC d) 122 #[.pointer (some ⟨w2.heap.size, 0, none⟩)] (enters_of Tryz.func122 (by kernel_rfl) rfl) _ (((unhide HS).kept (unhide HK2) (by simp)).kept K3 (by simp)) (unhide HB) hl (((unhide HG).kept (unhide HK2) (by simp)).kept K3 (by simp)) (fun j hj w' hk => sign1_any d j w2.heap.size w' h0 hj (hk.cell (by rw [cell_of_row _ _ 0 _ _ _ (heap_alloc_new w2 _)]; rfl) (by simp)))).mono ?_
  rintro ee w4 ⟨a4, m4, c4, rfl, A4⟩
  have HA := hide (A4.after ((unhide HK2).trans K3))
  clear A4 K3 HK2
  go_wp2_with fail
  go_ret
  exact ⟨a4, m4, c4, rfl, unhide HA⟩
end Go.Proofs.YtillhpgdlmeajabGreatDoor

/-
  Regions that draw their order, whose operations only make memory, and mark what they made: of each operation a predicate tells what it yields, and stays true as long as cells stay; one look at each operation serves every order.
-/
namespace Go.Proofs.YtillhpgdlmeajabGreatDoor
open Go.RowKit
/-- w' has all cells that w has. -/
structure Kc (w w' : World) : Prop where
  size : w.heap.size ≤ w'.heap.size
  cell : ∀ a v, w.cell? a = some v → w'.cell? a = some v
theorem Kc.refl (w : World) : Kc w w := ⟨Nat.le_refl _, fun _ _ h => h⟩
theorem Kp.kc {w w' : World} (h : Kp [] w w') : Kc w w' := ⟨h.size, fun _ _ hc => h.cell hc (by simp)⟩
theorem Sl.kc {w w' : World} {v : Value} {bs : List Int} (h : Sl w v bs) (k : Kc w w') : Sl w' v bs := by
  obtain ⟨ao, c, rfl, h1, h2, h3, h4⟩ := h
  exact ⟨ao, c, rfl, h1, h2, h3, fun a ha j u hu => k.cell _ _ (h4 a ha j u hu)⟩
theorem Lists.kc {w w' : World} {v : Value} {l : List (Value × List Int)} (h : Lists w v l) (k : Kc w w') : Lists w' v l := by
  obtain ⟨ao, c, rfl, h1, h2⟩ := h
  refine ⟨ao, c, rfl, h1, fun i hi => ?_⟩
  obtain ⟨b, off, e, h3, h4, h5⟩ := h2 i hi
  exact ⟨b, off, e, k.cell _ _ h3, h4.kc k, h5⟩
def grownC (P : Program) (w0 w : World) (R : Tell) : Result Next → Prop
  | .ok (.value v) w' => (Kc w w' ∧ Kp [] w0 w') ∧ R v w'
  | .ok .skip w' => (Kc w w' ∧ Kp [] w0 w') ∧ R undef w'
  | .ok (.enter f args) w' => Calls P f args w' fun e w'' => ∃ v, e = .returned v ∧ (Kc w w'' ∧ Kp [] w0 w'') ∧ R v w''
  | _ => False
/-- What one operation must do. -/
def wantsC (P : Program) (ops : Array Oper) (o : Oper) (a : Act) (w0 w : World) (R : Tell) : Prop :=
  if Region.wanted o (yielded ops a.tmps) then grownC P w0 w R ((execOp a.eval o).run P w) else R undef w
def StepsC (P : Program) (ops : Array Oper) (a0 : Act) (w0 : World) (Rs : List Tell) : List Oper → List (List (Tmp × Option Nat)) → List Tell → Prop
  | o :: l, ks :: kss, R :: rs => (∀ a w, Kp [] w0 w → Knows a0 Rs a w ks → wantsC P ops o a w0 w R) ∧ StepsC P ops a0 w0 Rs l kss rs
  | [], [], [] => True
  | _, _, _ => False
section
variable {P : Program} {l : List Oper} {Q : Exit → Act → World → Prop} {a0 : Act} {w0 : World} {Rs : List Tell} {kss : List (List (Tmp × Option Nat))} {n i : Nat} {listed : Array Bool} {a : Act} {w w' : World} {o : Oper} {R : Tell} {v : Value}
theorem StepsC.at (ops : Array Oper) : ∀ {l : List Oper} {kss : List (List (Tmp × Option Nat))} {rs : List Tell}, StepsC P ops a0 w0 Rs l kss rs → l.length = rs.length ∧ l.length = kss.length ∧ ∀ (i : Nat) o ks R, l[i]? = some o → kss[i]? = some ks → rs[i]? = some R → ∀ a w, Kp [] w0 w → Knows a0 Rs a w ks → wantsC P ops o a w0 w R
  | [], [], [], _ => ⟨rfl, rfl, fun i o ks R h => by simp at h⟩
  | o :: l, ks :: kss, R :: rs, h => by
    obtain ⟨h1, h2, h3⟩ := StepsC.at ops h.2
    refine ⟨by simp [h1], by simp [h2], fun i o' ks' R' ho hk hR => ?_⟩
    cases i with
    | zero =>
      simp at ho hk hR
      subst ho; subst hk; subst hR
      exact h.1
    | succ i => exact h3 i o' ks' R' (by simpa using ho) (by simpa using hk) (by simpa using hR)
  | [], [], _ :: _, h => h.elim
  | [], _ :: _, [], h => h.elim
  | [], _ :: _, _ :: _, h => h.elim
  | _ :: _, [], [], h => h.elim
  | _ :: _, [], _ :: _, h => h.elim
  | _ :: _, _ :: _, [], h => h.elim
end
end Go.Proofs.YtillhpgdlmeajabGreatDoor

/-
  The law's helpers: on, opens, known.
-/
namespace Go.Proofs.YtillhpgdlmeajabGreatDoor
open Go.ChangeShapes Go.WideShapes Go.ChangeAt Go.RowKit
open Go.Proofs
open Go.Deep
set_option linter.unusedVariables false
/-- Open, by the bytes. -/
theorem open_at {w0 w : World} {p : Nat} {v : Value} {d : Dk} (h : Nw w0 w p v d) (hd : d.down = false) (ha : d.arm ≤ 0) (b : List Int) (hb : d.bs = b) :
    Calls Tryz.prog 26 #[.pointer (some ⟨p, 0, none⟩)] w fun e w' =>
      ((opnP b).2.2 = true ∧ ∃ j v' ao m c l, e = .returned (.tuple #[.pointer (some ⟨j, 0, none⟩), .slice ao m c, .int .i64 0]) ∧ Jn w0 w' p v' d.opn j (opnP b).1.length ∧ w.heap.size ≤ j ∧ DSt p w v w' v' ∧ Pj w' w.heap.size (.slice ao m c) l p j v' ∧ l.map (·.2) = (opnP b).1 ∧ m = (opnP b).1.length) ∨
      ((opnP b).2.2 = false ∧ e = .returned (.tuple #[.pointer none, .slice none 0 0, .int .i64 14]) ∧ Nw w0 w' p v d ∧ Kp [] w w') := by
  subst hb
  exact open_any h hd ha
/-- a disk with these bytes, synced. -/
def dkOn (b : List Int) : Dk := ⟨b, b.length, 1048576, 0, false⟩
theorem open_ok {w0 w : World} {p : Nat} {v : Value} {d d' : Dk} (h : Nw w0 w p v d) (hd : d.down = false) (ha : d.arm ≤ 0) {b : List Int} (hb : d.bs = b) {rs : List (List Int)} {at_ : Nat} (ho : opnP b = (rs, at_, true)) (hd' : d.opn = d') :
    Calls Tryz.prog 26 #[.pointer (some ⟨p, 0, none⟩)] w fun e w' =>
      ∃ j v' ao c l, e = .returned (.tuple #[.pointer (some ⟨j, 0, none⟩), .slice ao rs.length c, .int .i64 0]) ∧ Jn w0 w' p v' d' j rs.length ∧ w.heap.size ≤ j ∧ DSt p w v w' v' ∧ Pj w' w.heap.size (.slice ao rs.length c) l p j v' ∧ l.map (·.2) = rs := by
  refine (open_at h hd ha b hb).mono ?_
  rw [ho, hd']
  rintro e w' (⟨-, j, v', ao, m, c, l, rfl, h1, h2, h3, h4, h5, rfl⟩ | ⟨hf, -⟩)
  · exact ⟨j, v', ao, c, l, rfl, h1, h2, h3, h4, h5⟩
  · cases hf
end Go.Proofs.YtillhpgdlmeajabGreatDoor

/-
  A place of a row of the call's own: read, written.
-/
namespace Go.Proofs.YtillhpgdlmeajabGreatDoor
open Go.RowKit
theorem Bs.set {bs : List Int} (h : Bs bs) (i : Nat) (x : Int) (h0 : 0 ≤ x) (h1 : x ≤ 255) : Bs (bs.set i x) := fun b hb => by
  rcases List.mem_or_eq_of_mem_set hb with h2 | rfl
  · exact h b h2
  · exact ⟨h0, h1⟩
theorem Row.spot {w : World} {base n c : Nat} {ao : Option Addr} {bs : List Int} (h : Row w base (.slice ao n c) bs) (h0 : 0 < n) :
    ∃ g, ao = some ⟨g, 0, none⟩ ∧ base ≤ g ∧ g < w.heap.size ∧ (∀ k (hk : k < bs.length), w.cell? ⟨g, k, none⟩ = some (.int .u8 bs[k])) ∧ (∀ k, w.frozen? ⟨g, k, none⟩ = false) ∧ ∀ k x, Row (w.setCell ⟨g, k, none⟩ (.int .u8 x)) base (.slice ao n c) (bs.set k x) := by
  have hn := h.len
  subst hn
  rcases h.2 with ⟨h', h1⟩ | ⟨g, cap, cur, h', hb, hg, _⟩
  · injection h'; omega
  · have e : ao = some ⟨g, 0, none⟩ := by injection h'
    subst e
    have h1 : w.ownsRow base 5 1 (.slice (some ⟨g, 0, none⟩) bs.length c) bs.length (bs.map (Value.int .u8)) := h
    refine ⟨g, rfl, hb, (Array.getElem?_eq_some_iff.1 hg).1, fun k hk => ?_, fun k => h1.frozenAt k, fun k x => ?_⟩
    · rw [h1.cellAt k (by omega)]; simp [List.getElem?_eq_getElem hk]
    · have := (h1.stored k (.int .u8 x)).1
      unfold Row
      rw [List.length_set, List.map_set]
      exact this
end Go.Proofs.YtillhpgdlmeajabGreatDoor

/-
  Few of the law package, plainly; what the laws of the journal share.
-/
namespace Go.Proofs.YtillhpgdlmeajabGreatDoor
open Go.RowKit
open Go.Proofs
theorem Lists.at {w : World} {v : Value} {l : List (Value × List Int)} (h : Lists w v l) (x : Value × List Int) (hx : x ∈ l) : Sl w x.1 x.2 ∧ Bs x.2 := by
  obtain ⟨_, _, _, _, hc⟩ := h
  obtain ⟨i, hi, rfl⟩ := List.getElem_of_mem hx
  obtain ⟨_, _, _, _, h1, h2⟩ := hc i hi
  exact ⟨h1, h2⟩
end Go.Proofs.YtillhpgdlmeajabGreatDoor

/-
  Arguments of the laws of the journal: slices of truths, slices of asks.
-/
namespace Go.Proofs.YtillhpgdlmeajabGreatDoor
open Go.RowKit
open Go.Proofs
open Go.Deep Go.ChangeShapes Go.WideShapes
namespace Dk
theorem add_on (b x : List Int) (h : b.length + x.length ≤ 1048576) : (dkOn b).add x = (true, dkOn (b ++ x)) := by
  have h1 : (dkOn b).app x = (true, ⟨b ++ x, b.length, 1048576, 0, false⟩) := app_plain (d := dkOn b) rfl (Int.le_refl 0) x (by show ((b.length + x.length : Nat) : Int) ≤ 1048576; omega)
  unfold add
  rw [h1, if_pos rfl]
  exact sync_plain (d := ⟨b ++ x, b.length, 1048576, 0, false⟩) rfl (Int.le_refl 0)
theorem opn_all (ls : List (List Int)) (h : ∀ r ∈ ls, r.length ≤ 65535) : (dkOn (layP ls)).opn = dkOn (layP ls) := by
  unfold opn
  have e : (dkOn (layP ls)).bs = layP ls := rfl
  rw [e, opnP_all ls h, if_neg (by show ¬ (layP ls).length < (layP ls).length; omega)]
end Dk
def Bools (w : World) (v : Value) (l : List Bool) : Prop :=
  ∃ ao c, v = .slice ao l.length c ∧ l.length ≤ 9223372036854775807 ∧ ∀ i (h : i < l.length), ∃ b off, ao = some ⟨b, off, none⟩ ∧ w.cell? ⟨b, off + i, none⟩ = some (.bool l[i])
theorem Bools.kept {w w' : World} {v : Value} {l : List Bool} (h : Bools w v l) (k : Kp [] w w') : Bools w' v l := by
  obtain ⟨ao, c, rfl, h1, h2⟩ := h
  refine ⟨ao, c, rfl, h1, fun i hi => ?_⟩
  obtain ⟨b, off, e, h3⟩ := h2 i hi
  exact ⟨b, off, e, k.cell h3 (by simp)⟩
/-- one ask as data. -/
structure AskJ where
  kind : Int
  v : Value
  bs : List Int
def AskJAt (w : World) (b o : Nat) (x : AskJ) : Prop :=
  w.rangeAt b o [.int .i64 x.kind, x.v] ∧ Sl w x.v x.bs ∧ Bs x.bs
def AskJs (w : World) (v : Value) (l : List AskJ) : Prop :=
  ∃ ao c, v = .slice ao l.length c ∧ l.length ≤ 9223372036854775807 ∧ ∀ i (h : i < l.length), ∃ b off, ao = some ⟨b, off, none⟩ ∧ AskJAt w b (off + i * 2) l[i]
theorem AskJAt.kept {w w' : World} {b o : Nat} {x : AskJ} (h : AskJAt w b o x) (k : Kp [] w w') : AskJAt w' b o x :=
  ⟨fun j u hu => k.cell (h.1 j u hu) (by simp), h.2.1.kept k (by simp), h.2.2⟩
theorem AskJs.kept {w w' : World} {v : Value} {l : List AskJ} (h : AskJs w v l) (k : Kp [] w w') : AskJs w' v l := by
  obtain ⟨ao, c, rfl, h1, h2⟩ := h
  refine ⟨ao, c, rfl, h1, fun i hi => ?_⟩
  obtain ⟨b, off, e, h3⟩ := h2 i hi
  exact ⟨b, off, e, h3.kept k⟩
section
variable {H : Type} {enc : TypeId × Value → H} {w : World}
end
end Go.Proofs.YtillhpgdlmeajabGreatDoor

/-
  Lists gathered behind one another; records cut off by a crash.
-/
namespace Go.Proofs.YtillhpgdlmeajabGreatDoor
open Go.RowKit
open Go.Proofs
theorem RowV.room {w : World} {base m c : Nat} {ao : Option Addr} {xs : List Value} (h : RowV w base (.slice ao m c) xs) : m ≤ c ∧ m = xs.length := by
  have hm := h.len
  rcases h.2 with ⟨h', h0⟩ | ⟨g, cap, cur, h', hb, hg, hc, -⟩
  · injection h' with h1 h2 h3
    exact ⟨by omega, hm⟩
  · injection h' with h1 h2 h3
    exact ⟨by omega, hm⟩
end Go.Proofs.YtillhpgdlmeajabGreatDoor

/-
  Chapter 14 as plain functions: the records of the first keys.
-/
namespace Go.Proofs.YtillhpgdlmeajabGreatDoor
/-- the records of the first n keys. -/
def keyL (n : Nat) : List (List Int) := (List.range n).map (fun (i : Nat) => [(i : Int)])
theorem keyL_len (n : Nat) : (keyL n).length = n := by simp [keyL]
theorem keyL_succ (n : Nat) : keyL (n + 1) = keyL n ++ [[(n : Int)]] := by simp [keyL, List.range_succ]
theorem keyL_get {n i : Nat} (h : i < n) : (keyL n)[i]'(by rw [keyL_len]; exact h) = [(i : Int)] := by simp [keyL]
theorem keyL_short (n : Nat) : ∀ r ∈ keyL n, r.length ≤ 65535 := fun r hr => by
  obtain ⟨i, -, rfl⟩ := List.mem_map.1 hr
  simp
/-- their bytes. -/
def klay (n : Nat) : List Int := layP (keyL n)
theorem klay_succ (n : Nat) : klay (n + 1) = klay n ++ recP [(n : Int)] := by unfold klay; rw [keyL_succ, layP_snoc]
theorem klay_len (n : Nat) : (klay n).length = 9 * n := by
  induction n with
  | zero => rfl
  | succ n ih => rw [klay_succ, List.length_append, ih, recP_len]; simp; omega
theorem klay_opn (n : Nat) : opnP (klay n) = (keyL n, 9 * n, true) := by
  have := opnP_all (keyL n) (keyL_short n)
  rw [← klay_len n]
  exact this
theorem klay_dk (n : Nat) : (dkOn (klay n)).opn = dkOn (klay n) := Dk.opn_all (keyL n) (keyL_short n)
/-- are these the records of the first keys. -/
def inOrd (rs : List (List Int)) : Bool := decide (rs.length ≤ 16) && decide (rs = keyL rs.length)
theorem inOrd_key {n : Nat} (h : n ≤ 16) : inOrd (keyL n) = true := by simp [inOrd, keyL_len, h]
theorem inOrd_eq {rs : List (List Int)} (h : inOrd rs = true) : rs.length ≤ 16 ∧ rs = keyL rs.length := by simpa [inOrd] using h
/-- up to place i they are. -/
def ordTo (rs : List (List Int)) (i : Nat) : Prop := rs.take i = keyL i
theorem ordTo_zero (rs : List (List Int)) : ordTo rs 0 := by simp [ordTo, keyL]
theorem ordTo_succ {rs : List (List Int)} {i : Nat} (h : ordTo rs i) (hi : i < rs.length) (e : rs[i] = [(i : Int)]) : ordTo rs (i + 1) := by
  unfold ordTo at h ⊢
  rw [List.take_succ_eq_append_getElem hi, h, e, keyL_succ]
theorem ordTo_all {rs : List (List Int)} (h : ordTo rs rs.length) (h16 : rs.length ≤ 16) : inOrd rs = true := by
  unfold ordTo at h
  rw [List.take_length] at h
  simp only [inOrd, Bool.and_eq_true, decide_eq_true_eq]
  exact ⟨h16, h⟩
theorem inOrd_not {rs : List (List Int)} {i : Nat} (hi : i < rs.length) (e : rs[i] ≠ [(i : Int)]) : inOrd rs = false := by
  cases h : inOrd rs with
  | false => rfl
  | true =>
    obtain ⟨-, h2⟩ := inOrd_eq h
    have h3 : rs[i]? = (keyL rs.length)[i]? := by rw [← h2]
    rw [List.getElem?_eq_getElem hi, List.getElem?_eq_getElem (by rw [keyL_len]; exact hi), keyL_get hi] at h3
    exact absurd (Option.some.inj h3) e
namespace Dk
end Dk
theorem kadd_on {n : Nat} (h : n < 16) : (dkOn (klay n)).add (recP [(n : Int)]) = (true, dkOn (klay (n + 1))) := by
  rw [klay_succ]
  exact Dk.add_on _ _ (by rw [klay_len, recP_len]; simp; omega)
end Go.Proofs.YtillhpgdlmeajabGreatDoor

/-
  Package keys: a box in memory; Open, Take, Next, Left.
-/
namespace Go.Proofs.YtillhpgdlmeajabGreatDoor
open Go.RowKit
open Go.Proofs
set_option linter.unusedVariables false
/-- the box at q: its journal at j, the next key. -/
def Kb (w : World) (q j : Nat) (n : Int) : Prop := w.heap[q]? = some (.cells #[.pointer (some ⟨j, 0, none⟩), .int .i64 n] 98 (0, 0))
theorem Kb.kept {w w' : World} {q j : Nat} {n : Int} {S : List Nat} (h : Kb w q j n) (k : Kp S w w') (hq : q ∉ S) : Kb w' q j n := k.heap h hq
theorem Kb.lt {w : World} {q j : Nat} {n : Int} (h : Kb w q j n) : q < w.heap.size := (Array.getElem?_eq_some_iff.1 h).1
theorem Kb.off {w : World} {q j : Nat} {n : Int} {base p' : Nat} {v : Value} {d : Dk} (h : Kb w q j n) (D : DskP w base p' v d) : q ∉ dfp p' v := fun hm => by
  rcases mem_dfp.1 hm with rfl | hm
  · have h2 := D.here
    unfold Fv at h2
    unfold Kb at h
    rw [h2] at h
    injection h with h
    injection h with h3
    have := congrArg Array.size h3
    simp at this
  · obtain ⟨c, hc⟩ := row_typ D.row hm
    unfold Kb at h
    rw [hc] at h
    injection h with h
    injection h with _ h3
    cases h3
theorem Kb.offJ {w : World} {q j j' p : Nat} {n m : Int} (h : Kb w q j n) (g : Jr w j' p m) : q ≠ j' := fun e => by
  subst e
  unfold Kb at h
  unfold Jr at g
  rw [g] at h
  injection h with h
  injection h with _ h3
  cases h3
theorem Kb.c0 {w : World} {q j : Nat} {n : Int} (h : Kb w q j n) : w.cell? ⟨q, 0, none⟩ = some (.pointer (some ⟨j, 0, none⟩)) := by rw [cell_of_row w q 0 _ _ _ h]; rfl
theorem Kb.c1 {w : World} {q j : Nat} {n : Int} (h : Kb w q j n) : w.cell? ⟨q, 1, none⟩ = some (.int .i64 n) := by rw [cell_of_row w q 1 _ _ _ h]; rfl
theorem Kb.f {w : World} {q j : Nat} {n : Int} (h : Kb w q j n) (i : Nat) : w.frozen? ⟨q, i, none⟩ = false := by
  unfold World.frozen?
  unfold Kb at h
  simp [h]
theorem Kb.s1 {w : World} {q j : Nat} {n : Int} (h : Kb w q j n) (m : Int) : Kb (w.setCell ⟨q, 1, none⟩ (.int .i64 m)) q j m := by
  have := set_at h 1 (.int .i64 m)
  simpa [Kb] using this
/-- a disk made since w0. -/
def Nx (w0 w : World) (p : Nat) (d : Dk) : Prop := ∃ v, Nw w0 w p v d
/-- A box on its disk, both made since w0: the next key n; of its journal's count no more than k. -/
def Bx (w0 w : World) (p : Nat) (d : Dk) (q n k : Nat) : Prop := ∃ v j m, m ≤ k ∧ Jn w0 w p v d j m ∧ Kb w q j n ∧ w0.heap.size ≤ q
section
variable {w0 w w' : World} {p q n k : Nat} {d d' : Dk}
theorem Nx.kp (h : Nx w0 w p d) : Kp [] w0 w := by obtain ⟨v, h⟩ := h; exact h.kp
theorem Nx.on (h : Nx w0 w p d) (g : Kp [] w w') : Nx w0 w' p d := by obtain ⟨v, h⟩ := h; exact ⟨v, h.on g⟩
theorem Bx.nx (h : Bx w0 w p d q n k) : Nx w0 w p d := by obtain ⟨v, j, m, -, h, -⟩ := h; exact ⟨v, h.nw⟩
theorem Bx.kp (h : Bx w0 w p d q n k) : Kp [] w0 w := h.nx.kp
theorem Bx.on (h : Bx w0 w p d q n k) (g : Kp [] w w') : Bx w0 w' p d q n k := by
  obtain ⟨v, j, m, h1, h2, h3, h4⟩ := h
  exact ⟨v, j, m, h1, h2.on g, h3.kept g (by simp), h4⟩
theorem Bx.more {k' : Nat} (h : Bx w0 w p d q n k) (hk : k ≤ k') : Bx w0 w p d q n k' := by
  obtain ⟨v, j, m, h1, h2⟩ := h
  exact ⟨v, j, m, by omega, h2⟩
/-- the disk takes a step beside the box. -/
theorem Bx.disk {v v' : Value} (h : ∃ j m, m ≤ k ∧ Jn w0 w p v d j m ∧ Kb w q j n ∧ w0.heap.size ≤ q) (g : Nw w0 w' p v' d') (t : DSt p w v w' v') : Bx w0 w' p d' q n k := by
  obtain ⟨j, m, h1, h2, h3, h4⟩ := h
  exact ⟨v', j, m, h1, h2.disk g t, h3.kept t.1 (h3.off h2.nw.dk), h4⟩
theorem left_keys (h : Bx w0 w p d q n k) (hn : n ≤ 16) (x : Int) (hx : x = 16 - (n : Int)) : Calls Tryz.prog 62 #[.pointer (some ⟨q, 0, none⟩)] w fun e w' => e = .returned (.int .i64 x) ∧ w' = w := by
  obtain ⟨v, j, m, -, -, h, -⟩ := h
  have hc := h.c1
  clear h
  have hn' : (n : Int) ≤ 16 := by omega
  go_enter Tryz.func62, Tryz.ntmps62
  go_wp2_with fail
  go_ret
  subst hx
  exact ⟨rfl, rfl⟩
end
end Go.Proofs.YtillhpgdlmeajabGreatDoor

/-
  Package keys: inOrder, Open.
-/
namespace Go.Proofs.YtillhpgdlmeajabGreatDoor
open Go.RowKit
open Go.Proofs
set_option linter.unusedVariables false
theorem ordTo_snoc {rs : List (List Int)} {i : Nat} (h : ordTo rs i) (e : rs[i]? = some [(i : Int)]) : ordTo rs (i + 1) := by
  obtain ⟨hi, e⟩ := List.getElem?_eq_some_iff.1 e
  exact ordTo_succ h hi e
theorem inOrd_no {rs : List (List Int)} {i : Nat} {x : List Int} (e : rs[i]? = some x) (hx : x ≠ [(i : Int)]) : inOrd rs = false := by
  obtain ⟨hi, e⟩ := List.getElem?_eq_some_iff.1 e
  exact inOrd_not hi (by rw [e]; exact hx)
set_option maxRecDepth 100000 in
set_option maxHeartbeats 2000000 in
theorem inOrder_any (vl : Value) (l : List (Value × List Int)) (w : World) (hL : Lists w vl l) (rs : List (List Int)) (hrs : l.map (·.2) = rs) (h16 : l.length ≤ 16) :
    Calls Tryz.prog 48 #[vl] w fun e w' => e = .returned (.bool (inOrd rs)) ∧ Kp [] w w' := by
  obtain ⟨al, cl, rfl, -, hcell⟩ := hL
  have HC := hide hcell
  have hn16 : (l.length : Int) ≤ 16 := by omega
  have hn16' : ¬ (16 : Int) < (l.length : Int) := by omega
  have hlr : l.length = rs.length := by rw [← hrs]; simp
  have hget : Hid (∀ i (h : i < l.length), rs[i]? = some l[i].2) := fun i h => by
    subst hrs
    simp [List.getElem?_eq_getElem h]
  have HLR := hide hlr
  clear hcell hrs
  obtain ⟨n, hn⟩ : ∃ n, n = l.length := ⟨_, rfl⟩
  rw [← hn] at hn16 hn16' ⊢
  have HN := hide hn
  clear hn hlr
  go_enter Tryz.func48, Tryz.ntmps48
  go_wp2_with fail
  go_loopw [10] (fun i wr => ∃ k : Nat, k ≤ n ∧ i = .int .i64 k ∧ ordTo rs k ∧ Kp [] w wr) (fun i _ => n - (intOf i).toNat)
  case atStart => exact ⟨0, by omega, rfl, ordTo_zero _, Kp.refl _ _⟩
  case round =>
    obtain ⟨k, hk, rfl, hO, K⟩ := hrel
    have HO := hide hO
    have HK := hide K
    clear hO
    by_cases hlt : k < n
    · have hlt' : (k : Int) < (n : Int) := by omega
      have hkl : k < l.length := by have := HN.out; omega
      obtain ⟨b, off, rfl, hc, hS, hB⟩ := HC.out k hkl
      have hcw := K.cell hc (by simp)
      have hSw := hS.kept K (by simp)
      have hrk : rs[k]? = some l[k].2 := hget.out k hkl
      obtain ⟨x, hx⟩ : ∃ x, x = l[k] := ⟨_, rfl⟩
      rw [← hx] at hcw hSw hrk hB
      obtain ⟨x1, x2⟩ := x
      simp only at hcw hSw hrk hB
      have HRk := hide hrk
      clear hc hS hx K hrk
      obtain ⟨ax, cx, rfl, hcx, -, hax, hcl⟩ := hSw
      by_cases h1 : x2.length = 1
      · obtain ⟨u, rfl⟩ : ∃ u, x2 = [u] := by
          cases x2 with
          | nil => simp at h1
          | cons u t =>
            cases t with
            | nil => exact ⟨u, rfl⟩
            | cons y t => simp at h1
        have hu : 0 ≤ u ∧ u ≤ 255 := hB u (by simp)
        obtain ⟨ad, rfl⟩ : ∃ a, ax = some a := by
          cases ax with
          | none => have := hax rfl; simp at hcx; omega
          | some a => exact ⟨a, rfl⟩
        have hc0 := hcl ad rfl 0 (.int .u8 u) rfl
        rw [Addr.add_zero'] at hc0
        have h64 : IntKind.i64.wrap u = u := by simp [IntKind.wrap, IntKind.signed, IntKind.bits]; omega
        clear hcl hax hB h1 hcx
        simp only [List.length_cons, List.length_nil, Nat.zero_add] at hcw
        by_cases he : u = k
        · subst he
          have HO2 := hide (ordTo_snoc HO.out HRk.out)
          go_wp2_with fail
          go_roundw
          case rel => exact ⟨k + 1, by omega, by go_num, HO2.out, HK.out⟩
          case measure => simp [intOf]; omega
        · have he' : (u == (k : Int)) = false := by simpa using he
          have HF := hide (inOrd_no HRk.out (fun e => by
            injection e with e1
            exact he e1))
          clear HRk
          go_wp2_with fail
          go_ret
          rw [HF.out]
          exact ⟨rfl, HK.out⟩
      · have h1' : ¬ (x2.length : Int) = 1 := by omega
        have h1'' : ((x2.length : Int) == 1) = false := by simpa using h1'
        obtain ⟨nx, hnx⟩ : ∃ n, n = x2.length := ⟨_, rfl⟩
        rw [← hnx] at hcw h1' h1''
        have HF := hide (inOrd_no HRk.out (fun e => h1 (by rw [e]; rfl)))
        clear hcl hcx hax hB h1 hnx HRk
        go_wp2_with fail
        go_ret
        rw [HF.out]
        exact ⟨rfl, HK.out⟩
    · obtain rfl : k = n := by omega
      clear K
      go_wp2_with fail
      go_ret
      have h1 := HO.out
      rw [HN.out, HLR.out] at h1
      rw [ordTo_all h1 (by have := HN.out; have := HLR.out; omega)]
      exact ⟨rfl, HK.out⟩
end Go.Proofs.YtillhpgdlmeajabGreatDoor

/-
  Disks, journals and boxes with the blocks that they lie in.
-/
namespace Go.Proofs.YtillhpgdlmeajabGreatDoor
open Go.RowKit
open Go.Proofs
set_option linter.unusedVariables false
/-- a disk in the blocks F. -/
def Dx (w0 w : World) (p : Nat) (d : Dk) (F : Nat → Prop) : Prop := ∃ v, Nw w0 w p v d ∧ ∀ i ∈ dfp p v, F i
/-- a journal on its disk, both in F. -/
def Jx (w0 w : World) (p : Nat) (d : Dk) (j k : Nat) (F : Nat → Prop) : Prop := ∃ v m, m ≤ k ∧ Jn w0 w p v d j m ∧ F j ∧ ∀ i ∈ dfp p v, F i
/-- a box on its disk, all in F. -/
def Bf (w0 w : World) (p : Nat) (d : Dk) (q n k : Nat) (F : Nat → Prop) : Prop := ∃ v j m, m ≤ k ∧ Jn w0 w p v d j m ∧ Kb w q j n ∧ w0.heap.size ≤ q ∧ F q ∧ F j ∧ ∀ i ∈ dfp p v, F i
section
variable {w0 w w' : World} {p q j n k : Nat} {d d' : Dk} {F : Nat → Prop} {v : Value}
theorem Nw.kept {S : List Nat} (h : Nw w0 w p v d) (t : Kp S w w') (k0 : Kp [] w0 w') (hS : ∀ i ∈ dfp p v, i ∉ S) : Nw w0 w' p v d := ⟨h.dk.kept t hS, h.new, k0, h.arm⟩
theorem Jn.kept {S : List Nat} (h : Jn w0 w p v d j n) (t : Kp S w w') (k0 : Kp [] w0 w') (hS : ∀ i ∈ dfp p v, i ∉ S) (hj : j ∉ S) : Jn w0 w' p v d j n := ⟨h.nw.kept t k0 hS, h.jr.kept t hj, h.new⟩
theorem Dx.kept {S : List Nat} (h : Dx w0 w p d F) (t : Kp S w w') (k0 : Kp [] w0 w') (hS : ∀ i ∈ S, ¬ F i) : Dx w0 w' p d F := by
  obtain ⟨v, h1, h2⟩ := h
  exact ⟨v, h1.kept t k0 (fun i hi hm => hS i hm (h2 i hi)), h2⟩
theorem Jx.kept {S : List Nat} (h : Jx w0 w p d j k F) (t : Kp S w w') (k0 : Kp [] w0 w') (hS : ∀ i ∈ S, ¬ F i) : Jx w0 w' p d j k F := by
  obtain ⟨v, m, h1, h2, h3, h4⟩ := h
  exact ⟨v, m, h1, h2.kept t k0 (fun i hi hm => hS i hm (h4 i hi)) (fun hm => hS _ hm h3), h3, h4⟩
theorem Bf.kept {S : List Nat} (h : Bf w0 w p d q n k F) (t : Kp S w w') (k0 : Kp [] w0 w') (hS : ∀ i ∈ S, ¬ F i) : Bf w0 w' p d q n k F := by
  obtain ⟨v, j, m, h1, h2, h3, h4, h5, h6, h7⟩ := h
  exact ⟨v, j, m, h1, h2.kept t k0 (fun i hi hm => hS i hm (h7 i hi)) (fun hm => hS _ hm h6), h3.kept t (fun hm => hS _ hm h5), h4, h5, h6, h7⟩
theorem Bf.bx (h : Bf w0 w p d q n k F) : Bx w0 w p d q n k := by
  obtain ⟨v, j, m, h1, h2, h3, h4, -⟩ := h
  exact ⟨v, j, m, h1, h2, h3, h4⟩
theorem Bf.dx (h : Bf w0 w p d q n k F) : Dx w0 w p d F := by
  obtain ⟨v, j, m, h1, h2, h3, h4, h5, h6, h7⟩ := h
  exact ⟨v, h2.nw, h7⟩
theorem Jx.dx (h : Jx w0 w p d j k F) : Dx w0 w p d F := by
  obtain ⟨v, m, h1, h2, h3, h4⟩ := h
  exact ⟨v, h2.nw, h4⟩
theorem Dx.upd (h : Dx w0 w p d F) {F' : Nat → Prop} (hF : ∀ i, F i → F' i) : Dx w0 w p d F' := by
  obtain ⟨v, h1, h2⟩ := h
  exact ⟨v, h1, fun i hi => hF i (h2 i hi)⟩
theorem Jx.upd (h : Jx w0 w p d j k F) {F' : Nat → Prop} (hF : ∀ i, F i → F' i) : Jx w0 w p d j k F' := by
  obtain ⟨v, m, h1, h2, h3, h4⟩ := h
  exact ⟨v, m, h1, h2, hF _ h3, fun i hi => hF i (h4 i hi)⟩
theorem Bf.upd (h : Bf w0 w p d q n k F) {F' : Nat → Prop} (hF : ∀ i, F i → F' i) : Bf w0 w p d q n k F' := by
  obtain ⟨v, j, m, h1, h2, h3, h4, h5, h6, h7⟩ := h
  exact ⟨v, j, m, h1, h2, h3, h4, hF _ h5, hF _ h6, fun i hi => hF i (h7 i hi)⟩
/-- where a disk lies behind a step. -/
def grF (F : Nat → Prop) (v' : Value) : Nat → Prop := fun i => F i ∨ v'.ownBlock = some i
theorem DSt.stp {v' : Value} (t : DSt p w v w' v') (hF : ∀ i ∈ dfp p v, F i) (hlt : ∀ i, v'.ownBlock = some i → i < w'.heap.size) : Stp F w w' (grF F v') := by
  refine ⟨⟨dfp p v, hF, t.1⟩, fun i hi => ?_⟩
  rcases hi with hi | hi
  · exact .inl hi
  · rcases t.2 i hi with h1 | h1
    · exact .inl (hF i (mem_dfp.2 (.inr h1)))
    · exact .inr ⟨h1, hlt i hi⟩
theorem JSt.stp {v' : Value} (t : JSt p j w v w' v') (hF : ∀ i ∈ dfp p v, F i) (hj : F j) (hlt : ∀ i, v'.ownBlock = some i → i < w'.heap.size) : Stp F w w' (grF F v') := by
  refine ⟨⟨j :: dfp p v, fun i hi => ?_, t.1⟩, fun i hi => ?_⟩
  · rcases List.mem_cons.1 hi with rfl | hi
    · exact hj
    · exact hF i hi
  · rcases hi with hi | hi
    · exact .inl hi
    · rcases t.2 i hi with h1 | h1
      · exact .inl (hF i (mem_dfp.2 (.inr h1)))
      · exact .inr ⟨h1, hlt i hi⟩
theorem grF_fp {v' : Value} (hp : F p) : ∀ i ∈ dfp p v', grF F v' i := fun i hi => by
  rcases mem_dfp.1 hi with rfl | hi
  · exact .inl hp
  · exact .inr hi
theorem Nw.rlt (h : Nw w0 w p v d) : ∀ i, v.ownBlock = some i → i < w.heap.size := fun i hi => h.dk.row.lt hi
/-- the journal's Add. -/
theorem jx_add {vb : Value} {b : List Int} (h : Jx w0 w p d j k F) (hS : Sl w vb b) (hB : Bs b) (hl : b.length ≤ 65535) (hk : k ≤ 1000) (er : Bool) (he : d.add (recP b) = (er, d')) (en : Int) (hen : en = if er then 0 else 13) :
    Calls Tryz.prog 28 #[.pointer (some ⟨j, 0, none⟩), vb] w fun e w' => e = .returned (.int .i64 en) ∧ ∃ F', Jx w0 w' p d' j (k + 1) F' ∧ Stp F w w' F' := by
  obtain ⟨v, m, h1, h2, h3, h4⟩ := h
  refine (jadd_any h2 hS hB hl (by omega) er he en hen _ rfl).mono ?_
  rintro e w' ⟨rfl, v', J, T⟩
  refine ⟨rfl, grF F v', ⟨v', _, ?_, J, .inl h3, grF_fp (h4 p (mem_dfp.2 (.inl rfl)))⟩, T.stp h4 h3 J.nw.rlt⟩
  split <;> omega
set_option maxRecDepth 100000 in
set_option maxHeartbeats 2000000 in
theorem bf_take (h : Bf w0 w p d q n k F) (hn : n < 16) (hk : k ≤ 1000) (er : Bool) (he : d.add (recP [(n : Int)]) = (er, d')) (x en : Int) (hx : x = if er then (n : Int) else 0) (hen : en = if er then 0 else 13) (n' : Nat) (hn' : n' = if er then n + 1 else n) :
    Calls Tryz.prog 67 #[.pointer (some ⟨q, 0, none⟩)] w fun e w' => e = .returned (.tuple #[.int .i64 x, .int .i64 en]) ∧ ∃ F', Bf w0 w' p d' q n' (k + 1) F' ∧ Stp F w w' F' := by
  obtain ⟨v, j, m, hm, hJ, hB, hq, hFq, hFj, hFv⟩ := h
  have hc0 := hB.c0
  have hc1 := hB.c1
  have hne : ¬ (n : Int) = 16 := by omega
  have hne' : ((n : Int) == 16) = false := by simpa using hne
  have h8 : IntKind.u8.wrap (n : Int) = n := by simp [IntKind.wrap, IntKind.signed, IntKind.bits]; omega
  have ka : Kp [] w (w.alloc (.cells #[.int .u8 (n : Int)] 5 (0, 0))) := (Kp.refl [] w).alloc _
  obtain ⟨m', hm'⟩ : ∃ m', m' = if (d.app (recP [(n : Int)])).1 then m + 1 else m := ⟨_, rfl⟩
  have HAd := hide (jadd_any (hJ.on ka) (lit_sl w [(n : Int)] 1 (0, 0) rfl (by omega)) (fun b hb => by simp at hb; omega) (by simp) (by omega) er he en hen m' hm')
  have hmk : m' ≤ k + 1 := by rw [hm']; split <;> omega
  have HJ := hide (hJ.on ka)
  have HB := hide (hB.kept ka (by simp))
  have HQ := hide hq
  have HMk := hide hmk
  have HX := hide hx
  have HN := hide hn'
  have HE := hide hen
  have HFq := hide hFq
  have HFj := hide hFj
  have HFv := hide hFv
  have HKa := hide ka
  clear hJ hB hq hmk hx hn' hen hm' hm he ka hFq hFj hFv
  go_enter Tryz.func67, Tryz.ntmps67
  go_wp2_with fail
  refine HAd.out.mono ?_
  rintro ee w2 ⟨rfl, v2, J2, T2⟩
  have B2 := HB.out.kept T2.1 (fun hm => by
    rcases List.mem_cons.1 hm with e | hm
    · exact HB.out.offJ HJ.out.jr e
    · exact HB.out.off HJ.out.nw.dk hm)
  have HJ2 := hide J2
  have HB2 := hide B2
  have HT2 : Hid (Stp F w w2 (grF F v2)) := (Stp.mid HKa.out).trans (T2.stp HFv.out HFj.out J2.nw.rlt)
  cases er
  · obtain rfl : en = 13 := by rw [HE.out]; rfl
    have hx0 : x = 0 := by rw [HX.out]; rfl
    have hn0 : n' = n := by rw [HN.out]; rfl
    subst hx0 hn0
    clear J2 T2 B2 HAd hc0 hc1
    go_wp2_with fail
    go_ret2
    exact ⟨rfl, grF F v2, ⟨v2, j, m', HMk.out, HJ2.out, HB2.out, HQ.out, .inl HFq.out, .inl HFj.out, grF_fp (HFv.out p (mem_dfp.2 (.inl rfl)))⟩, HT2.out⟩
  · obtain rfl : en = 0 := by rw [HE.out]; rfl
    have hx0 : x = n := by rw [HX.out]; rfl
    have hn0 : n' = n + 1 := by rw [HN.out]; rfl
    subst hx0 hn0
    have hc1 := B2.c1
    have hf1 := B2.f 1
    clear J2 T2 B2 HAd hc0
    have hw : IntKind.i64.wrap ((n : Int) + 1) = (n : Int) + 1 := by simp [IntKind.wrap, IntKind.signed, IntKind.bits]; omega
    go_wp2_with fail
    go_ret2
    have ks : Kp [q] w2 (w2.setCell ⟨q, 1, none⟩ (.int .i64 ((n : Int) + 1))) := kp_set w2 q 1 _
    refine ⟨rfl, grF F v2, ⟨v2, j, m', HMk.out, ⟨⟨HJ2.out.nw.dk.kept ks (fun i hi hm => ?_), HJ2.out.nw.new, HJ2.out.nw.kp.then ks (fun i hi => .inr ?_), HJ2.out.nw.arm⟩, HJ2.out.jr.kept ks ?_, HJ2.out.new⟩, ?_, HQ.out, .inl HFq.out, .inl HFj.out, grF_fp (HFv.out p (mem_dfp.2 (.inl rfl)))⟩, HT2.out.trans ⟨⟨[q], ?_, ks⟩, fun i hi => .inl hi⟩⟩
    · simp at hm; subst hm; exact HB2.out.off HJ2.out.nw.dk hi
    · simp at hi; subst hi; exact HQ.out
    · simp only [List.mem_cons, List.not_mem_nil, or_false]; exact fun e => HB2.out.offJ HJ2.out.jr e.symm
    · have := HB2.out.s1 ((n : Int) + 1)
      simpa using this
    · intro i hi; simp at hi; subst hi; exact .inl HFq.out
/-- keys.Open of the first keys' records. -/
theorem bf_open {at_ : Nat} (h : Dx w0 w p d F) (hd : d.down = false) (ha : d.arm ≤ 0) {b : List Int} (hb : d.bs = b) (hn : n ≤ 16) (ho : opnP b = (keyL n, at_, true)) (hd' : d.opn = d') :
    Calls Tryz.prog 25 #[.pointer (some ⟨p, 0, none⟩)] w fun e w' => ∃ q, e = .returned (.tuple #[.pointer (some ⟨q, 0, none⟩), .int .i64 0]) ∧ ∃ F', Bf w0 w' p d' q n n F' ∧ Stp F w w' F' := by
  obtain ⟨v, hN, hF⟩ := h
  have HO := hide (open_at hN hd ha b hb)
  have HF := hide hF
  have HD := hide hd'
  have HOp := hide ho
  have HN := hide hn
  clear hN hd ha hb hF hd' ho hn
  go_enter Tryz.func25, Tryz.ntmps25
  go_wp2_with fail
  refine HO.out.mono ?_
  rw [HOp.out, HD.out]
  rintro ee w1 (⟨ht, j, v1, al, m, cl, l, rfl, J1, hj1, T1, P1, hl1, hm1⟩ | ⟨hf, -⟩)
  · have HJ1 := hide J1
    rw [keyL_len] at hm1
    subst hm1
    have HL1 := hide hl1
    have hml : m = l.length := by have := congrArg List.length hl1; simpa [keyL_len] using this.symm
    have HI := hide (inOrder_any _ l w1 (P1.parts.lists (by have := HN.out; omega)) _ hl1 (by have := HN.out; omega))
    have HT1 : Hid (Stp F w w1 (grF F v1)) := T1.stp HF.out J1.nw.rlt
    have HJL := hide hj1
    have hio : inOrd (keyL m) = true := inOrd_key HN.out
    rw [hio] at HI
    clear J1 ht hl1 P1 HO hml T1 hj1 hio
    go_wp2_with fail
    refine HI.out.mono ?_
    rintro ee w2 ⟨rfl, K2⟩
    have HK2 := hide K2
    have HJ2 := hide (HJ1.out.on K2)
    clear HI K2
    go_wp2_with fail
    go_ret2
    have ka : Kp [] w2 (w2.alloc (.cells #[.pointer (some ⟨j, 0, none⟩), .int .i64 m] 98)) := (Kp.refl [] w2).alloc _
    have hsz := HT1.out.size
    have hs2 := HK2.out.size
    have hjl := HJL.out
    have hjl2 := HJ2.out.jr.lt
    refine ⟨w2.heap.size, rfl, fun i => grF F v1 i ∨ i = j ∨ i = w2.heap.size, ⟨v1, j, m, by omega, ?_, heap_alloc_new w2 _, HJ2.out.nw.kp.size, .inr (.inr rfl), .inr (.inl rfl), fun i hi => .inl (grF_fp (HF.out p (mem_dfp.2 (.inl rfl))) i hi)⟩, ?_⟩
    · have := HJ2.out.on ka
      rwa [keyL_len] at this
    · obtain ⟨⟨S, hS, kS⟩, h2⟩ := HT1.out.trans (Stp.mid (HK2.out.trans ka))
      refine ⟨⟨S, hS, kS⟩, fun i hi => ?_⟩
      rcases hi with hi | rfl | rfl
      · exact h2 i hi
      · exact .inr ⟨hjl, by simp; omega⟩
      · exact .inr ⟨by omega, by simp⟩
  · cases hf
end
end Go.Proofs.YtillhpgdlmeajabGreatDoor

/-
  Manifests (api.Manifest) as values and in memory: loaded, stored, handed back.
-/
namespace Go.Proofs.YtillhpgdlmeajabGreatDoor
open Go.RowKit
open Go.Proofs
/-- v is the manifest m. -/
def MV (w : World) (v : Value) (m : Mf) : Prop :=
  ∃ af nf cf an nn cn, v = .agg #[.string m.s, .int .u32 m.v, .slice af nf cf, .slice an nn cn] ∧ Sl w (.slice af nf cf) m.f ∧ Sl w (.slice an nn cn) m.n ∧ m.ok
theorem MV.kept {w w' : World} {v : Value} {m : Mf} (h : MV w v m) (k : Kp [] w w') : MV w' v m := by
  obtain ⟨af, nf, cf, an, nn, cn, e, h1, h2, h3⟩ := h
  exact ⟨af, nf, cf, an, nn, cn, e, h1.kept k (by simp), h2.kept k (by simp), h3⟩
theorem MV.ok {w : World} {v : Value} {m : Mf} (h : MV w v m) : m.ok := by
  obtain ⟨_, _, _, _, _, _, _, _, _, h3⟩ := h
  exact h3
section
variable {w : World} {g : Nat} {x y z u : Value} {fr : Nat × Nat}
end
section
variable {o : Oper} {a : Act} {w : World} {R : Tell} {g : Nat} {x y z u : Value} {fr : Nat × Nat}
end
/-- bytes do not lie in a block that holds none. -/
theorem sl_block {w : World} {v : Value} {bs : List Int} {g : Nat} {cs : Array Value} {t : TypeId} {fr : Nat × Nat} (h : Sl w v bs) (hg : w.heap[g]? = some (.cells cs t fr)) (hn : ∀ x ∈ cs.toList, ∀ y, x ≠ .int .u8 y) (hv : v.ownBlock = some g) : bs = [] := by
  by_cases hb0 : bs = []
  · exact hb0
  · obtain ⟨ao', c', e, h1, _, h3, h4⟩ := h
    cases ao' with
    | none => exact List.eq_nil_of_length_eq_zero (by have := h3 rfl; omega)
    | some ad =>
      have hpos : 0 < bs.length := List.length_pos_iff.2 hb0
      have hc := h4 ad rfl 0 (.int .u8 bs[0]) (by simp [List.getElem?_eq_getElem hpos])
      rw [e] at hv
      have hbk : ad.block = g := by simpa [Value.ownBlock] using hv
      rw [Addr.add_zero'] at hc
      have hsp := World.cell?_spot hc
      obtain ⟨b, off, sp⟩ := ad
      simp only at hsp hbk
      subst hsp
      subst hbk
      rw [cell_of_row w b off _ _ _ hg] at hc
      exact absurd rfl (hn _ (by simpa using Array.mem_of_getElem? hc) bs[0])
theorem sl_empty {w w' : World} {ao : Option Addr} {n c : Nat} (h : Sl w (.slice ao n c) []) : Sl w' (.slice ao n c) [] := by
  obtain ⟨ao', c', e, h1, h2, h3, _⟩ := h
  exact ⟨ao', c', e, h1, h2, h3, fun a _ j u hu => by simp at hu⟩
/-- blocks that hold no bytes. -/
def NoBy (w : World) (S : List Nat) : Prop := ∀ g ∈ S, ∃ cs t fr, w.heap[g]? = some (.cells cs t fr) ∧ ∀ x ∈ cs.toList, ∀ y, x ≠ .int .u8 y
theorem Sl.offBy {w w' : World} {ao : Option Addr} {n c : Nat} {bs : List Int} {S : List Nat} (h : Sl w (.slice ao n c) bs) (hS : NoBy w S) (k : Kp S w w') : Sl w' (.slice ao n c) bs := by
  by_cases hb : bs = []
  · subst hb; exact sl_empty h
  · refine h.kept k (fun i hi hm => hb ?_)
    obtain ⟨cs, t, fr, hg, hn⟩ := hS i hm
    exact sl_block h hg hn hi
theorem MV.offBy {w w' : World} {v : Value} {m : Mf} {S : List Nat} (h : MV w v m) (hS : NoBy w S) (k : Kp S w w') : MV w' v m := by
  obtain ⟨af, nf, cf, an, nn, cn, e, h1, h2, h3⟩ := h
  exact ⟨af, nf, cf, an, nn, cn, e, h1.offBy hS k, h2.offBy hS k, h3⟩
end Go.Proofs.YtillhpgdlmeajabGreatDoor

/-
  The contracts of package wire's Byte and Bytes of a writer and of a reader, and End, over this seat's program.
-/
namespace Go.Proofs.YtillhpgdlmeajabGreatDoor
open Go.RowKit
open Go.Proofs
theorem be_two (n : Int) : be n 2 0 = [n / 256 % 256, n % 256] := by simp [be, byteAt, List.range_succ]
theorem bytes_ok (p : Nat) (v : Value) (bs : List Int) (vb : Value) (cs : List Int) (w : World) (hw : Wr w p v bs) (hs : Sl w vb cs) (hk : ∀ w1, Kp (p :: v.ownBlock.toList) w w1 → Sl w1 vb cs) (hb : bs.length + cs.length ≤ 100000000000000) (hl : cs.length ≤ 65535) :
    Calls Tryz.prog 88 #[.pointer (some ⟨p, 0, none⟩), vb] w fun e w' => e = .returned (.bool true) ∧ ∃ v', Wr w' p v' (bs ++ be cs.length 2 0 ++ cs) ∧ Step p w v w' v' := by
  obtain ⟨ao, c, rfl, h1, h2, h3, h4⟩ := hs
  have hw32 : IntKind.u32.wrap (cs.length : Int) = cs.length := by simp [IntKind.wrap, IntKind.signed, IntKind.bits]; omega
  have hle : (cs.length : Int) ≤ 65535 := by omega
  clear h4 h3 h2
  go_enter Tryz.func88, Tryz.ntmps88
  go_wp2_with (go_at_call 106; refine (number_any p cs.length 2 v bs _ hw (by omega) (by omega)).mono ?_; rintro e w1 ⟨rfl, v1, k1, k2⟩)
  go_wp2_with (go_at_call 105; refine (raw_any p v1 _ _ cs _ k1 (hk _ k2.1) (by rw [List.length_append, be_length]; omega)).mono ?_; rintro e w2 ⟨rfl, v2, k3, k4⟩)
  go_ret
  exact ⟨rfl, v2, k3, k2.trans k4⟩
theorem val_two (cs : List Int) (h : Bs cs) (hl : cs.length ≤ 2) : 0 ≤ val cs ∧ val cs ≤ 65535 := by
  have h1 := val_bd cs h
  have : cs.length = 0 ∨ cs.length = 1 ∨ cs.length = 2 := by omega
  rcases this with e | e | e <;> rw [e] at h1 <;> omega
theorem rbytes_any (q : Nat) (v : Value) (bad : Bool) (bs : List Int) (most : Int) (w : World) (hR : Rd w q v bad bs) (hB : Bs bs) (hb : bs.length ≤ 140737488355328) :
    Calls Tryz.prog 80 #[.pointer (some ⟨q, 0, none⟩), .int .i64 most] w fun e w' => ∃ ao c, e = .returned (.slice ao (tkb bad bs most).1.length c) ∧ Own w w' (.slice ao (tkb bad bs most).1.length c) (tkb bad bs most).1 ∧ Left w q v (tkb bad bs most).2 w' := by
  have hv := val_two (tk bad bs 2).1 (tk_bs1 hB) (@tk_len1 bad bs 2)
  have hl2 : (tk bad bs 2).2.2.length ≤ 140737488355328 := by have := @tk_len bad bs 2; omega
  obtain ⟨t, ht⟩ : ∃ t, t = tk bad bs 2 := ⟨_, rfl⟩
  have hw64 : IntKind.i64.wrap (val t.1) = val t.1 := by rw [ht]; simp [IntKind.wrap, IntKind.signed, IntKind.bits]; omega
  rw [← ht] at hv hl2
  have HT : Hid (t = tk bad bs 2) := ht
  have h2 : (tkb bad bs most) = if max most 0 < val t.1 then ([], true, []) else tk t.2.1 t.2.2 (val t.1) := by unfold tkb; rw [ht]
  clear ht
  obtain ⟨x, hx⟩ : ∃ x, x = val t.1 := ⟨_, rfl⟩
  rw [← hx] at hv hw64 h2
  have HX : Hid (x = val t.1) := hx
  clear hx
  obtain ⟨hv0, hv1⟩ := hv
  by_cases hm : max most 0 < x
  · rw [if_pos hm] at h2
    rw [h2]
    have hm2 : ¬ x ≤ max most 0 := by omega
    clear h2
    go_enter Tryz.func80, Tryz.ntmps80
    go_wp2_with fail
    refine (rnumber_any q v bad bs 2 _ hR (by omega) (by omega) hB).mono ?_
    rintro e w1 ⟨rfl, hL⟩
    rw [show ((2 : Nat) : Int) = 2 from rfl, ← HT.out] at hL
    rw [show ((2 : Nat) : Int) = 2 from rfl, ← HT.out, ← HX.out]
    go_wp2_with fail
    all_goals
      obtain ⟨⟨v1, r1, o1⟩, k1⟩ := hL
      refine (spoil_any q v1 _ _ _ r1).mono ?_
      rintro e w2 ⟨rfl, r2, k2⟩
      go_wp2_with fail
      refine (raw_ok q _ true [] x _ r2 (by simp)).mono ?_
      rw [tk_no true [] x (.inr (by simp; omega))]
      rintro e w3 ⟨ao, c, rfl, hO, hL3⟩
      go_wp2_with fail
      go_ret
      exact ⟨ao, c, rfl, ⟨hO.1, fun k hk => Nat.le_trans (k1.trans k2).size (hO.2 k hk)⟩, ⟨⟨_, hL3.1.choose_spec.1, fun k hk => (by have := hL3.1.choose_spec.2 k hk; cases this)⟩, (k1.trans k2).trans hL3.2⟩⟩
  · rw [if_neg hm] at h2
    rw [h2]
    clear h2
    go_enter Tryz.func80, Tryz.ntmps80
    go_wp2_with fail
    refine (rnumber_any q v bad bs 2 _ hR (by omega) (by omega) hB).mono ?_
    rintro e w1 ⟨rfl, hL⟩
    rw [show ((2 : Nat) : Int) = 2 from rfl, ← HT.out] at hL
    rw [show ((2 : Nat) : Int) = 2 from rfl, ← HT.out, ← HX.out]
    go_wp2_with fail
    all_goals
      obtain ⟨⟨v1, r1, o1⟩, k1⟩ := hL
      refine (raw_ok q v1 _ _ x _ r1 hl2).mono ?_
      rintro e w3 ⟨ao, c, rfl, hO, hL3⟩
      go_wp2_with fail
      go_ret
      exact ⟨ao, c, rfl, ⟨hO.1, fun k hk => Nat.le_trans k1.size (hO.2 k hk)⟩, ⟨⟨_, hL3.1.choose_spec.1, fun k hk => o1 k (hL3.1.choose_spec.2 k hk)⟩, k1.trans hL3.2⟩⟩
theorem end_any (q : Nat) (v : Value) (bad : Bool) (bs : List Int) (w : World) (h : Rd w q v bad bs) :
    Calls Tryz.prog 81 #[.pointer (some ⟨q, 0, none⟩)] w fun e w' => e = .returned (.bool (!bad && bs.isEmpty)) ∧ w' = w := by
  obtain ⟨ao, c, rfl, h1, h2, h3, h4⟩ := h.2.1
  have hc0 := (cell_of_two h.1).1
  have hc1 := (cell_of_two h.1).2
  clear h4 h3 h
  cases bad with
  | true =>
    go_enter Tryz.func81, Tryz.ntmps81
    go_wp2
    go_ret
    exact ⟨rfl, rfl⟩
  | false =>
    cases bs with
    | nil =>
      go_enter Tryz.func81, Tryz.ntmps81
      go_wp2
      go_ret
      exact ⟨rfl, rfl⟩
    | cons b bs =>
      have hl : (((bs.length : Int) + 1) == 0) = false := by rw [beq_eq_false_iff_ne]; omega
      go_enter Tryz.func81, Tryz.ntmps81
      go_wp2
      go_ret
      exact ⟨rfl, rfl⟩
end Go.Proofs.YtillhpgdlmeajabGreatDoor

/-
  Rows of numbers that a call owns; items of a row of texts.
-/
namespace Go.Proofs.YtillhpgdlmeajabGreatDoor
open Go.RowKit
open Go.Proofs
set_option linter.unusedVariables false
theorem beU_2 (n : Int) : be n 2 0 = be2 n := be_two n
theorem be_bqU (n : Int) : be n 4 0 = bq n := by simp [be, byteAt, List.range_succ, bq]
theorem Tryz.infoInt : (Tryz.prog.info? 3).map (fun i => (i.zero, i.size, i.bytes)) = some (some (.int .i64 0), 1, 8) := by kernel_rfl
/-- the row v of ints, of the call's own from base on. -/
def RowI (w : World) (base : Nat) (v : Value) (l : List Int) : Prop := w.ownsRow base 3 1 v l.length (l.map (Value.int .i64))
theorem RowI.kept {w w' : World} {base : Nat} {v : Value} {l : List Int} {S : List Nat} (h : RowI w base v l) (k : Kp S w w') (hv : ∀ i, v.ownBlock = some i → i ∉ S) : RowI w' base v l := k.owns h hv
theorem RowI.shape {w : World} {base : Nat} {v : Value} {l : List Int} (h : RowI w base v l) : ∃ ao c, v = .slice ao l.length c := owns_shape h
theorem RowI.lt {w : World} {base k : Nat} {v : Value} {l : List Int} (h : RowI w base v l) (hk : v.ownBlock = some k) : base ≤ k ∧ k < w.heap.size := by
  rcases h.2 with ⟨rfl, _⟩ | ⟨g, cap, cur, rfl, hb, hg, _⟩
  · cases hk
  · cases hk; exact ⟨hb, (Array.getElem?_eq_some_iff.1 hg).1⟩
theorem RowI.rebase {w : World} {base base' : Nat} {v : Value} {l : List Int} (h : RowI w base v l) (hn : ∀ k, v.ownBlock = some k → base' ≤ k) : RowI w base' v l := owns_rebase h hn
theorem wpList_append_rowi {w : World} {ops : Array Oper} {rest : List Oper} {o : Oper} {a : Act} {Q : Exit → Act → World → Prop} (hgd : o.guard = none) (s x : Operand)
    (ho : o.op = .call { callee := .builtin .append, args := #[s, x], argTypes := #[33, 33] }) (base : Nat) (v : Value) (xs : List Int) (hs : a.eval s = v) (hrow : RowI w base v xs)
    (n : Int) (hx : a.eval x = .slice (some ⟨w.heap.size, 0, none⟩) 1 1) (hb : xs.length ≤ 1000000) (hbase : base ≤ w.heap.size)
    (h : ∀ ao m c w', RowI w' base (.slice ao m c) (xs ++ [n]) → RStep w v w' (.slice ao m c) → wpList Tryz.prog ops Q rest (a.put o.dst (.slice ao m c)) w') : wpList Tryz.prog ops Q (o :: rest) a (w.alloc (.cells #[.int .i64 n] 3)) := by
  obtain ⟨i0, hi0, hz0, hz1, hz2⟩ := info_parts Tryz.infoInt
  obtain ⟨av, cv, rfl⟩ := hrow.shape
  have k0 : Kp [] w (w.alloc (.cells #[.int .i64 n] 3)) := (Kp.refl [] w).alloc _
  refine wpList_append_own_at _ hgd s x 33 ho base 3 i0 (.int .i64 0) 1 8 Tryz.underlying33 hi0 hz0 hz1 hz2 rfl (by decide) _ xs.length (xs.map (Value.int .i64)) hs (hrow.kept k0 (by simp)) ⟨w.heap.size, 0, none⟩ 1 1 [.int .i64 n] hx rfl (fun j u hu => World.news_of_block (heap_alloc_new w _) j u (by simpa using hu)) (by simp [Value.oneCell']) (by unfold maxLen; omega) (by omega) (Nat.le_trans hbase k0.size) ?_
  intro v' w1 hown hgrow _ hat
  have R : RowI w1 base v' (xs ++ [n]) := by unfold RowI; rw [List.length_append, List.map_append]; exact hown
  obtain ⟨ao', c', hv⟩ := R.shape
  subst hv
  refine h ao' _ c' w1 R ⟨(k0.mono (by simp)).trans ((Kp.refl _ _).grown hgrow (fun k hk => .inl (by simp [hk]))), fun k hk => ?_⟩
  rcases hat with e | e
  · exact .inl (e ▸ hk)
  · rw [e] at hk; cases hk; exact .inr (by simp)
/-- an item of a row of texts. -/
theorem RowU.at {w : World} {base m c : Nat} {ao : Option Addr} {l : List (List Int)} (h : RowU w base (.slice ao m c) l) (i : Nat) (hi : i < l.length) : ∃ g, ao = some ⟨g, 0, none⟩ ∧ w.cell? ⟨g, i, none⟩ = some (.string (strOfNums l[i])) := by
  rcases h.2 with ⟨e, h0⟩ | ⟨g, cap, cur, e, _⟩
  · omega
  · injection e with e1 e2 e3
    subst e1
    have := h.cells (g := g) rfl i (sv l[i]) (by simp [List.getElem?_eq_getElem hi])
    exact ⟨g, rfl, by simpa [Addr.add_lit, sv] using this⟩
set_option maxRecDepth 100000 in
set_option maxHeartbeats 4000000 in
theorem ulaid_any (v : Value) (l : List (List Int)) (w : World) (hR : RowU w 0 v l) (hs : ∀ x ∈ l, Bs x ∧ x.length ≤ 65535) (hn : l.length ≤ 1000) :
    Calls Tryz.prog 61 #[v] w fun e w' => ∃ ao m c, e = .returned (.tuple #[.slice ao m c, .bool true]) ∧ Row w' w.heap.size (.slice ao m c) (batU l) ∧ Kp [] w w' := by
  obtain ⟨al, cl, rfl⟩ := hR.shape
  have HR := hide hR
  have HS := hide hs
  obtain ⟨n, hnl⟩ : ∃ n, n = l.length := ⟨_, rfl⟩
  have hn32 : IntKind.u32.wrap (n : Int) = n := by simp [IntKind.wrap, IntKind.signed, IntKind.bits]; omega
  have HB0 : Hid ((l.take 0).map itmU = []) := by simp [Hid]
  rw [← hnl] at HR hn ⊢
  have HN := hide hnl
  clear hR hs hnl
  go_enter Tryz.func61, Tryz.ntmps61
  go_wp2_with fail
  refine (new_abs w).mono ?_
  rintro ee w1 ⟨p, rfl, W1, hp1, K1⟩
  have HW : Hid (Wn w w1 p (.slice none 0 0) []) := ⟨W1, K1, hp1, fun k hk => by cases hk⟩
  clear W1 hp1 K1
  go_wp2_with fail
  refine (num_any p n (.slice none 0 0) [] w1 HW.out.1 (by simp)).mono ?_
  rintro ee w2 ⟨rfl, v2, W2, S2⟩
  rw [List.nil_append, be_bqU] at W2
  have HW2 := hide (HW.out.step W2 S2)
  clear W2 S2 HW
  go_wp2_with fail
  go_loopw [15] (fun i wr => ∃ k : Nat, k ≤ n ∧ i = .int .i64 k ∧ ∃ vw, Wn w wr p vw (bq n ++ ((l.take k).map itmU).flatten)) (fun i _ => n - (intOf i).toNat)
  case atStart => exact ⟨0, by omega, rfl, v2, by simpa using HW2.out⟩
  case round =>
    obtain ⟨k, hk, rfl, vw, W⟩ := hrel
    have HWk := hide W
    clear W HW2
    by_cases hlt : k < n
    · have hlt' : (k : Int) < (n : Int) := by omega
      have hkl : k < l.length := by have := HN.out; omega
      obtain ⟨g, rfl, hc⟩ := (HR.out.kept HWk.out.2.1 (by simp)).at k hkl
      obtain ⟨hBx, hlx⟩ := HS.out l[k] (List.getElem_mem hkl)
      have he : ((l.take (k + 1)).map itmU).flatten = ((l.take k).map itmU).flatten ++ itmU l[k] := by
        rw [List.take_succ_eq_append_getElem hkl, List.map_append]; simp
      have hll : ((l.take k).map itmU).flatten.length ≤ 100000000 := by
        have h1 := flatU_len (l.take k) 65535 (fun r hr => (HS.out r (List.mem_of_mem_take hr)).2)
        rw [List.length_take] at h1
        have : min k l.length * (2 + 65535) ≤ 1000 * (2 + 65535) := Nat.mul_le_mul_right _ (by omega)
        omega
      obtain ⟨x, hx⟩ : ∃ x, x = l[k] := ⟨_, rfl⟩
      rw [← hx] at hc hBx hlx he
      obtain ⟨c5, w5, hcv, S5, K5⟩ := conv_big (strOfNums x) wr (by rw [str_size]; omega)
      rw [nums_str x hBx] at S5
      have HW5 := hide (HWk.out.kept K5)
      have HB5 := hide (bytes_ok p vw _ _ x w5 HW5.out.1 S5 (fun w1 k1 => S5.kept k1 (fun i hi hm => by
        have e : wr.heap.size = i := by simpa [Value.ownBlock] using hi
        simp only [List.mem_cons, Option.mem_toList] at hm
        rcases hm with hm | hm
        · have := HWk.out.1.lt; omega
        · have := (HWk.out.1.2.lt i hm).2; omega)) (by rw [List.length_append, bq_len]; omega) hlx)
      have HE := hide he
      clear S5 K5 HWk he hx hll
      go_wp2_with fail
      refine HB5.out.mono ?_
      rintro ee w6 ⟨rfl, v6, W6, S6⟩
      have HW6 := hide (HW5.out.step W6 S6)
      clear W6 S6 HB5 HW5 hcv hc
      go_wp2_with fail
      go_roundw
      case rel => exact ⟨k + 1, by omega, by go_num, v6, by have := HW6.out; rw [HE.out]; show Wn w w6 p v6 (bq n ++ (((l.take k).map itmU).flatten ++ (be2 x.length ++ x))); rw [beU_2] at this; simpa only [List.append_assoc] using this⟩
      case measure => simp [intOf]; omega
    · have hkn : k = n := by omega
      have HWn : Hid (Wn w wr p vw (batU l)) := by
        have := HWk.out
        rw [hkn, HN.out, List.take_length] at this
        exact this
      have hnlt : ¬ (k : Int) < (n : Int) := by omega
      have hbl : (batU l).length ≤ 100000000 := by
        have h1 := batU_len l 65535 (fun r hr => (HS.out r hr).2)
        have : l.length * (2 + 65535) ≤ 1000 * (2 + 65535) := Nat.mul_le_mul_right _ (by have := HN.out; omega)
        omega
      have HD := hide (done_any p vw _ wr HWn.out.1 (by omega))
      obtain ⟨m, hm⟩ : ∃ m, m = (batU l).length := ⟨_, rfl⟩
      rw [← hm] at HD
      have HM := hide hm
      clear hm hbl HWk hkn
      go_wp2_with fail
      refine HD.out.mono ?_
      rintro ee w5 ⟨a5, c5, rfl, R5, K5⟩
      have HR5 : Hid (Row w5 w.heap.size (.slice a5 m c5) (batU l)) := row_new (w0 := wr) (by unfold Row; rw [← HM.out]; exact R5) HWn.out.2.1
      have HK5 := hide (HWn.out.2.1.trans K5)
      clear R5 K5 HD
      go_wp2_with fail
      go_ret2
      exact ⟨a5, m, c5, rfl, HR5.out, HK5.out⟩
end Go.Proofs.YtillhpgdlmeajabGreatDoor

/-
  Checkpoints: which are right, their bodies; checkpoints (api.Checkpoint) as values.
-/
namespace Go.Proofs.YtillhpgdlmeajabGreatDoor
open Go.RowKit
open Go.Proofs
/-- the letters that stand ahead of what a log signs. -/
def letC : List Int := [98, 114, 111, 97, 100, 115, 104, 101, 101, 116, 32, 99, 104, 101, 99, 107]
def rgtC (n : Int) (r : List Int) : Bool := decide (0 ≤ n ∧ n ≤ 256) && (r.length == 32)
def bodC (n : Int) (r : List Int) : List Int := if rgtC n r then letC ++ (be4 n ++ r) else []
theorem rgtC_iff (n : Int) (r : List Int) : rgtC n r = true ↔ (0 ≤ n ∧ n ≤ 256) ∧ r.length = 32 := by simp [rgtC]
theorem Tryz.chkSize : (Tryz.prog.info? 50).map (·.size) = some 2 := by kernel_rfl
theorem sl_nlenf {w : World} {ao : Option Addr} {n c : Nat} {bs : List Int} (h : Sl w (.slice ao n c) bs) : n = bs.length := by
  obtain ⟨_, _, e, _⟩ := h
  injection e
/-- v is the checkpoint of these. -/
def CkV (w : World) (v : Value) (n : Int) (r : List Int) : Prop := ∃ a m c, v = .agg #[.int .i64 n, .slice a m c] ∧ Sl w (.slice a m c) r ∧ Bs r
theorem CkV.kept {w w' : World} {v : Value} {n : Int} {r : List Int} (h : CkV w v n r) (k : Kp [] w w') : CkV w' v n r := by
  obtain ⟨a, m, c, e, h1, h2⟩ := h
  exact ⟨a, m, c, e, h1.kept k (by simp), h2⟩
/-- what an operation of a region yields. -/
def CkT (n : Int) (r : List Int) : Tell := fun v w => CkV w v n r
end Go.Proofs.YtillhpgdlmeajabGreatDoor

/-
  The contracts of Right of a checkpoint: package check's, and the reference's.
-/
namespace Go.Proofs.YtillhpgdlmeajabGreatDoor
open Go.RowKit
open Go.Proofs
set_option maxRecDepth 100000 in
set_option maxHeartbeats 1000000 in
theorem ckright_any (v : Value) (n : Int) (r : List Int) (b : Bool) (hb : b = rgtC n r) (w : World) (hV : CkV w v n r) :
    Calls Tryz.prog 96 #[v] w fun e w' => e = .returned (.bool b) ∧ Kp [] w w' := by
  obtain ⟨a, m, c, rfl, hS, -⟩ := hV
  have hm := sl_nlenf hS
  have hb2 : b = (decide (0 ≤ n ∧ n ≤ 256) && ((m : Int) == 32)) := by
    rw [hb, hm]
    unfold rgtC
    congr 1
    rw [Bool.eq_iff_iff]
    simp only [beq_iff_eq]
    omega
  have HB := hide hb2
  have HK1 : Hid (Kp [] w (w.alloc (.cells #[.int .i64 n, .slice a m c] 50))) := (Kp.refl [] w).alloc _
  clear hb hb2 hS hm
  by_cases h0 : 0 ≤ n
  · by_cases h1 : n ≤ 256
    · have HE : Hid (b = ((m : Int) == 32)) := hide (by rw [unhide HB]; simp [h0, h1])
      clear HB
      go_enter Tryz.func96, Tryz.ntmps96
      go_wp2_with fail
      go_ret
      exact ⟨by rw [unhide HE]; rfl, unhide HK1⟩
    · have HE : Hid (b = false) := hide (by rw [unhide HB]; simp [h1])
      clear HB
      go_enter Tryz.func96, Tryz.ntmps96
      go_wp2_with fail
      go_ret
      exact ⟨by rw [unhide HE]; rfl, unhide HK1⟩
  · have HE : Hid (b = false) := hide (by rw [unhide HB]; simp [h0])
    clear HB
    go_enter Tryz.func96, Tryz.ntmps96
    go_wp2_with fail
    go_ret
    exact ⟨by rw [unhide HE]; rfl, unhide HK1⟩
end Go.Proofs.YtillhpgdlmeajabGreatDoor

/-
  What chapter 5 fixes, as plain functions of lists of numbers.
-/
namespace Go.Proofs.YtillhpgdlmeajabGreatDoor
open Go.RowKit
/-- the node above two. -/
def nodeP (a b : List Int) : List Int := sha (14 :: (a ++ b))
/-- the level above one. -/
def abvP (l : List (List Int)) : List (List Int) := (List.range (l.length / 2)).map fun i => nodeP (l.getD (2 * i) []) (l.getD (2 * i + 1) [])
def lvsP (seed : List Int) (n : Nat) : List (List Int) := (List.range n).map fun i => pubP seed (i : Nat)
/-- an owner's nodes, level for level. -/
def lvP (seed : List Int) : Nat → List (List Int)
  | 0 => lvsP seed 16
  | h + 1 => abvP (lvP seed h)
def sibP (i : Nat) : Nat := if i % 2 = 0 then i + 1 else i - 1
/-- the way up from the leaf i, its first n hashes. -/
def pthP (seed : List Int) (i n : Nat) : List (List Int) := (List.range n).map fun h => (lvP seed h).getD (sibP (i / 2 ^ h)) []
theorem lvsP_succ (seed : List Int) (n : Nat) : lvsP seed (n + 1) = lvsP seed n ++ [pubP seed (n : Nat)] := by simp [lvsP, List.range_succ]
theorem lvsP_len (seed : List Int) (n : Nat) : (lvsP seed n).length = n := by simp [lvsP]
theorem abvP_len (l : List (List Int)) : (abvP l).length = l.length / 2 := by simp [abvP]
theorem nodeP_len (a b : List Int) : (nodeP a b).length = 32 := sha_len _
theorem nodeP_bs (a b : List Int) : Bs (nodeP a b) := sha_bs _
theorem pubP_bs (seed : List Int) (key : Int) : Bs (pubP seed key) := sha_bs _
theorem pthP_succ (seed : List Int) (i n : Nat) : pthP seed i (n + 1) = pthP seed i n ++ [(lvP seed n).getD (sibP (i / 2 ^ n)) []] := by simp [pthP, List.range_succ]
theorem pthP_len (seed : List Int) (i n : Nat) : (pthP seed i n).length = n := by simp [pthP]
theorem lvP_len (seed : List Int) (h : Nat) : (lvP seed h).length = 16 / 2 ^ h := by
  induction h with
  | zero => exact lvsP_len _ _
  | succ h ih => rw [lvP, abvP_len, ih, Nat.pow_succ, Nat.div_div_eq_div_mul]
theorem lvP_all (seed : List Int) (h : Nat) : ∀ x ∈ lvP seed h, x.length = 32 ∧ Bs x := by
  cases h with
  | zero =>
    intro x hx
    obtain ⟨i, _, rfl⟩ := List.mem_map.1 hx
    exact ⟨pubP_len _ _, pubP_bs _ _⟩
  | succ h =>
    intro x hx
    obtain ⟨i, _, rfl⟩ := List.mem_map.1 hx
    exact ⟨nodeP_len _ _, nodeP_bs _ _⟩
theorem getD_mem {l : List (List Int)} {i : Nat} (h : i < l.length) : l.getD i [] ∈ l := by
  rw [List.getD_eq_getElem?_getD, List.getElem?_eq_getElem h]; exact List.getElem_mem h
theorem sib_lt {i m : Nat} (h : i < 2 * m) : sibP i < 2 * m := by unfold sibP; split <;> omega
theorem div_pow_lt {i h : Nat} (hi : i < 16) (hh : h ≤ 4) : i / 2 ^ h < 16 / 2 ^ h := by
  rcases (by omega : h = 0 ∨ h = 1 ∨ h = 2 ∨ h = 3 ∨ h = 4) with rfl | rfl | rfl | rfl | rfl <;> simp <;> omega
theorem sib_lv {i h : Nat} (hi : i < 16) (hh : h < 4) : sibP (i / 2 ^ h) < 16 / 2 ^ h := by
  have := div_pow_lt hi (Nat.le_of_lt hh)
  rcases (by omega : h = 0 ∨ h = 1 ∨ h = 2 ∨ h = 3) with rfl | rfl | rfl | rfl
  · exact sib_lt (m := 8) this
  · exact sib_lt (m := 4) this
  · exact sib_lt (m := 2) this
  · exact sib_lt (m := 1) this
theorem pthP_all (seed : List Int) (i n : Nat) (hi : i < 16) (hn : n ≤ 4) : ∀ x ∈ pthP seed i n, x.length = 32 ∧ Bs x := by
  intro x hx
  obtain ⟨h, hh, rfl⟩ := List.mem_map.1 hx
  have hh2 : h < n := by simpa using hh
  exact lvP_all seed h _ (getD_mem (by rw [lvP_len]; exact sib_lv hi (by omega)))
/-- has a signature its form? -/
def rgtP (i : Int) (ps qs : List (List Int)) : Bool := decide (0 ≤ i ∧ i < 16) && (areP ps && (qs.length == 4 && qs.all (fun x => x.length == 32)))
theorem rgtP_iff (i : Int) (ps qs : List (List Int)) : rgtP i ps qs = true ↔ (0 ≤ i ∧ i < 16) ∧ (ps.length = 64 ∧ ∀ x ∈ ps, x.length = 32) ∧ (qs.length = 4 ∧ ∀ x ∈ qs, x.length = 32) := by
  simp [rgtP, areP]
theorem rgtP_sgn (seed : List Int) (i : Nat) (hi : i < 16) (d : Int) : rgtP (i : Int) (sgnP seed (i : Int) d) (pthP seed i 4) = true := by
  rw [rgtP_iff]
  refine ⟨by omega, ⟨ptsP_len _ _ _ _, fun x hx => ?_⟩, pthP_len _ _ _, fun x hx => (pthP_all seed i 4 hi (Nat.le_refl _) x hx).1⟩
  unfold sgnP ptsP at hx
  obtain ⟨k, _, rfl⟩ := List.mem_map.1 hx
  exact ptP_len _ _ _ _
end Go.Proofs.YtillhpgdlmeajabGreatDoor

/-
  Signatures in memory; the contracts of package sign's small functions: isSeed, isKey, areHashes, Right.
-/
namespace Go.Proofs.YtillhpgdlmeajabGreatDoor
open Go.RowKit
/-- v is a signature: its number, its parts, its path. -/
def SigV (w : World) (v : Value) (i : Int) (ps qs : List (List Int)) : Prop :=
  ∃ vp vq lp lq, v = .agg #[.int .i64 i, vp, vq] ∧ Lists w vp lp ∧ lp.map (·.2) = ps ∧ Lists w vq lq ∧ lq.map (·.2) = qs
theorem SigV.kept {w w' : World} {v : Value} {i : Int} {ps qs : List (List Int)} (h : SigV w v i ps qs) (k : Kp [] w w') : SigV w' v i ps qs := by
  obtain ⟨vp, vq, lp, lq, e, h1, h2, h3, h4⟩ := h
  exact ⟨vp, vq, lp, lq, e, h1.kept k, h2, h3.kept k, h4⟩
theorem SigV.bs {w : World} {v : Value} {i : Int} {ps qs : List (List Int)} (h : SigV w v i ps qs) : (∀ x ∈ ps, Bs x) ∧ ∀ x ∈ qs, Bs x := by
  obtain ⟨vp, vq, lp, lq, e, h1, rfl, h3, rfl⟩ := h
  refine ⟨fun x hx => ?_, fun x hx => ?_⟩
  · obtain ⟨y, hy, rfl⟩ := List.mem_map.1 hx; exact h1.bs y hy
  · obtain ⟨y, hy, rfl⟩ := List.mem_map.1 hx; exact h3.bs y hy
theorem isSeed_any (vb : Value) (bs : List Int) (w : World) (hS : Sl w vb bs) (hl : bs.length = 32) :
    Calls Tryz.prog 110 #[vb] w fun e w' => e = .returned (.bool true) ∧ w' = w := by
  obtain ⟨ab, cb, rfl, _⟩ := hS
  rw [hl]
  go_enter Tryz.func110, Tryz.ntmps110
  go_wp2_with fail
  go_ret
  exact ⟨rfl, rfl⟩
theorem isKey_any (i : Int) (b : Bool) (hb : b = decide (0 ≤ i ∧ i < 16)) (w : World) :
    Calls Tryz.prog 111 #[.int .i64 i] w fun e w' => e = .returned (.bool b) ∧ w' = w := by
  by_cases h1 : 0 ≤ i
  · by_cases h2 : i < 16
    · obtain rfl : b = true := by rw [hb]; exact decide_eq_true ⟨h1, h2⟩
      clear hb
      go_enter Tryz.func111, Tryz.ntmps111
      go_wp2_with fail
      go_ret
      exact ⟨rfl, rfl⟩
    · obtain rfl : b = false := by rw [hb]; exact decide_eq_false (fun h => h2 h.2)
      clear hb
      go_enter Tryz.func111, Tryz.ntmps111
      go_wp2_with fail
      go_ret
      exact ⟨rfl, rfl⟩
  · obtain rfl : b = false := by rw [hb]; exact decide_eq_false (fun h => h1 h.1)
    clear hb
    go_enter Tryz.func111, Tryz.ntmps111
    go_wp2_with fail
    go_ret
    exact ⟨rfl, rfl⟩
end Go.Proofs.YtillhpgdlmeajabGreatDoor

/-
  The contract of package sign's Right.
-/
namespace Go.Proofs.YtillhpgdlmeajabGreatDoor
open Go.RowKit
theorem Lists.shape {w : World} {v : Value} {l : List (Value × List Int)} (h : Lists w v l) : ∃ ao c, v = .slice ao l.length c := by obtain ⟨ao, c, e, _⟩ := h; exact ⟨ao, c, e⟩
/-- a signature's own shape. -/
theorem SigV.shape {w : World} {v : Value} {i : Int} {ps qs : List (List Int)} (h : SigV w v i ps qs) : ∃ ap np cp aq nq cq lp lq, v = .agg #[.int .i64 i, .slice ap np cp, .slice aq nq cq] ∧ Lists w (.slice ap np cp) lp ∧ lp.map (·.2) = ps ∧ Lists w (.slice aq nq cq) lq ∧ lq.map (·.2) = qs ∧ np = ps.length ∧ nq = qs.length := by
  obtain ⟨vp, vq, lp, lq, e, h1, h2, h3, h4⟩ := h
  obtain ⟨ap, cp, e1⟩ := h1.shape
  obtain ⟨aq, cq, e2⟩ := h3.shape
  subst e1
  subst e2
  exact ⟨ap, _, cp, aq, _, cq, lp, lq, e, h1, h2, h3, h4, by rw [← h2]; simp, by rw [← h4]; simp⟩
end Go.Proofs.YtillhpgdlmeajabGreatDoor

/-
  The contracts of package sign's nodes: nodeAbove, leaves, above.
-/
namespace Go.Proofs.YtillhpgdlmeajabGreatDoor
open Go.RowKit
open Go.Proofs
set_option maxRecDepth 100000 in
set_option maxHeartbeats 1000000 in
theorem node_any (va vb : Value) (xs bs : List Int) (r : List Int) (hr : r = nodeP xs bs) (w : World) (hA : Sl w va xs) (hAB : Bs xs) (hB : Sl w vb bs) (hBB : Bs bs) (hal : xs.length ≤ 1000) (hbl : bs.length ≤ 1000) (hG : Gl w) :
    Calls Tryz.prog 133 #[va, vb] w fun e w' => ∃ ao m c, e = .returned (.slice ao m c) ∧ Row w' w.heap.size (.slice ao m c) r ∧ Kp [] w w' := by
  have HG := hide hG
  have HR := hide hr
  have HL := lists2 hA hAB hB hBB
  obtain ⟨aa, ca, hva, _⟩ := hA
  obtain ⟨ab, cb, hvb, _⟩ := hB
  obtain ⟨na, hna⟩ : ∃ n, n = xs.length := ⟨_, rfl⟩
  obtain ⟨nb, hnb⟩ : ∃ n, n = bs.length := ⟨_, rfl⟩
  rw [← hna] at hva
  rw [← hnb] at hvb
  subst hva
  subst hvb
  have HL2 := hide HL
  have HK := hide ((Kp.refl [] w).alloc (.cells #[.slice aa na ca, .slice ab nb cb] 29))
  clear HL hG hr hna hnb
  go_enter Tryz.func133, Tryz.ntmps133
  go_wp2_with fail
  refine (tagged_any 14 _ _ r (by rw [unhide HR, cat2]; rfl) _ (unhide HL2) (by omega) (by omega) (by simp) (by simp; omega) ((unhide HG).kept (unhide HK) (by simp))).mono ?_
  rintro ee w2 ⟨a2, m2, c2, rfl, R2, K2⟩
  have HR2 := hide (row_new R2 (unhide HK))
  have HK2 := hide ((unhide HK).trans K2)
  clear R2 K2 HL2 HK HR
  go_wp2_with fail
  go_ret
  exact ⟨a2, m2, c2, rfl, unhide HR2, unhide HK2⟩
set_option maxRecDepth 100000 in
set_option maxHeartbeats 1000000 in
theorem leaves_any (vb : Value) (bs : List Int) (w : World) (hS : Sl w vb bs) (hB : Bs bs) (hl : bs.length ≤ 1000) (hG : Gl w) :
    Calls Tryz.prog 124 #[vb] w fun e w' => ∃ ao m c, e = .returned (.slice ao m c) ∧ Acc w (lvsP bs 16) (.slice ao m c) w' := by
  obtain ⟨i0, hi0, hz0, hz1, hz2⟩ := info_parts Tryz.infoSl
  have HS := hide hS
  have HG := hide hG
  have HB := hide hB
  obtain ⟨ab, cb, hvb, _⟩ := hS
  obtain ⟨nb, hnb⟩ : ∃ n, n = bs.length := ⟨_, rfl⟩
  rw [← hnb] at hvb
  subst hvb
  clear hG hB hnb
  go_enter Tryz.func124, Tryz.ntmps124
  go_wp2_with (at_make; refine wpList_make_own _ rfl _ _ 31 rfl w.heap.size 29 i0 (.slice none 0 0) 1 Tryz.underlying31 hi0 hz0 hz1 .i64 .i64 _ 16 rfl rfl (by omega) (by rw [hz2]; omega) (by unfold maxLen; omega) (Nat.le_refl _) ?_; intro w1 o1 g1; have K1 : Kp [] w w1 := (Kp.refl [] w).grown g1 (by intro k hk; cases hk); have R1 : RowV w1 w.heap.size _ [] := o1)
  have A1 : Hid (Acc w (lvsP bs 0) (.slice (some ⟨w.heap.size, 0, none⟩) 0 16) w1) := ⟨[], ⟨R1, fun x hx => by cases hx⟩, rfl, K1⟩
  clear o1 g1 R1 K1
  go_loopw [3, 6] (fun v i wr => ∃ (k m cc : Nat) (ao : Option Addr), k ≤ 16 ∧ v = .slice ao m cc ∧ i = .int .i64 k ∧ Acc w (lvsP bs k) v wr) (fun _ i _ => 16 - (intOf i).toNat)
  case atStart => exact ⟨0, 0, 16, some ⟨w.heap.size, 0, none⟩, by omega, rfl, rfl, unhide A1⟩
  case round =>
    obtain ⟨k, m, cc, ao, hk, rfl, rfl, Ar⟩ := hrel
    clear A1
    have HA := hide Ar
    clear Ar
    by_cases hlt : k < 16
    · have hlt2 : (k : Int) < 16 := by omega
      obtain ⟨r, hr⟩ : ∃ r, r = pubP bs (k : Nat) := ⟨_, rfl⟩
      have HRB : Hid (Bs r) := by rw [hr]; exact pubP_bs _ _
      have HE : Hid (lvsP bs (k + 1) = lvsP bs k ++ [r]) := by rw [hr]; exact lvsP_succ _ _
      have HLN : Hid ((lvsP bs k).length ≤ 1000000) := by rw [lvsP_len]; show k ≤ 1000000; omega
      have HC := hide (public_any (.slice ab nb cb) bs (k : Nat) r hr wr ((unhide HS).kept (unhide HA).kp (by simp)) (unhide HB) hl ((unhide HG).kept (unhide HA).kp (by simp)))
      clear hr
      go_wp2_with fail
      refine (unhide HC).mono ?_
      rintro ee w4 ⟨a4, m4, c4, rfl, R4, K4⟩
      have HR4 := hide R4
      have HK4 := hide K4
      clear R4 K4 HC
      go_wp2_with (at_builtin; refine wpList_acc rfl (.tmp 9) (.tmp 13) rfl _ _ rfl (unhide HA) (unhide HLN) _ r (unhide HK4) (unhide HR4) (unhide HRB) rfl ?_; intro ao5 m5 c5 w5 A5)
      go_roundw
      case rel => exact ⟨k + 1, m5, c5, ao5, by omega, rfl, by go_num, by have e := unhide HE; rw [← e] at A5; exact A5⟩
      case measure => simp [intOf]; omega
    · obtain rfl : k = 16 := by omega
      go_wp2_with fail
      go_ret
      exact ⟨ao, m, cc, rfl, unhide HA⟩
/-- The value is a slice of one slice, which is a row that is new since. -/
def One (base : Nat) (r : List Int) : Tell := fun v w => ∃ g vx, v = .slice (some ⟨g, 0, none⟩) 1 1 ∧ w.cell? ⟨g, 0, none⟩ = some vx ∧ Row w base vx r
theorem stable_one (base : Nat) (r : List Int) : Tell.stable (One base r) := fun _ _ _ k ⟨g, vx, h1, h2, h3⟩ => ⟨g, vx, h1, k.cell h2 (by simp), h3.kept k (by simp)⟩
/-- The value is a row that is new since. -/
def RowT (base : Nat) (r : List Int) : Tell := fun v w => Row w base v r
theorem stable_row (base : Nat) (r : List Int) : Tell.stable (RowT base r) := fun _ _ _ k h => h.kept k (by simp)
theorem grown_one {o : Oper} {a : Act} {w : World} (x : Operand) (ho : o.op = .buildSlice 31 1 #[(0, x)]) (base : Nat) (r : List Int) (h : Row w base (a.eval x) r) : grown Tryz.prog w (One base r) ((execOp a.eval o).run Tryz.prog w) := by
  obtain ⟨ao, c, e⟩ := h.shape
  refine grown_run (v := .slice (some ⟨w.heap.size, 0, none⟩) 1 1) (w' := w.alloc (.cells #[a.eval x] 29)) ?_ ((Kp.refl _ _).alloc _) ⟨w.heap.size, _, rfl, cell_of_one (heap_alloc_new w _), h.kept ((Kp.refl [] w).alloc _) (by simp)⟩
  obtain ⟨ρ, hρ, hc, hf, hg⟩ := eval_is a
  rw [hρ] at e ⊢
  unfold execOp
  simp only [ho]
  simp [go_sem, e]
/-- one more slice behind them, as it lies in a block of its own. -/
theorem wpList_accg {w wr w3 : World} {ops : Array Oper} {rest : List Oper} {o : Oper} {a : Act} {Q : Exit → Act → World → Prop} (hgd : o.guard = none) (s x : Operand)
    (ho : o.op = .call { callee := .builtin .append, args := #[s, x], argTypes := #[31, 31] }) (v : Value) (ls : List (List Int)) (hs : a.eval s = v) (hA : Acc w ls v wr) (hl : ls.length ≤ 1000000)
    (bs : List Int) (k : Kp [] wr w3) (vx : Value) (hx : a.eval x = vx) (h1 : One wr.heap.size bs vx w3) (hb : Bs bs)
    (h : ∀ ao m c w', Acc w (ls ++ [bs]) (.slice ao m c) w' → wpList Tryz.prog ops Q rest (a.put o.dst (.slice ao m c)) w') : wpList Tryz.prog ops Q (o :: rest) a w3 := by
  obtain ⟨l, hP, hl2, hK⟩ := hA
  obtain ⟨g, vy, hv, hc, hr⟩ := h1
  have hP2 := hP.kept k
  obtain ⟨ax, cx, hvx⟩ := hr.shape
  refine wpList_append_rowv hgd s x ho w.heap.size v (l.map (·.1)) hs hP2.1 ⟨g, 0, none⟩ 1 [vy] (by rw [hx, hv]; rfl) ?_ ?_ ?_ ?_ ?_
  · intro j u hu
    have hj : j = 0 := by have := (List.getElem?_eq_some_iff.1 hu).1; simpa using this
    subst hj
    simp at hu
    subst hu
    exact hc
  · simp [hvx, Value.oneCell']
  · have : l.length = ls.length := by rw [← hl2]; simp
    simp; omega
  · have := hK.size
    have := k.size
    omega
  · intro ao m c w' r st
    refine h ao m c w' ⟨l ++ [(vy, bs)], hP.snoc (x := (vy, bs)) k hr hb (Kp.refl _ _) r st hK.size, by simp [hl2], ?_⟩
    exact (hK.trans k).then st.1 (fun i hi => .inr (hP.1.own i (by simpa using hi)))
theorem abv_take (ls : List (List Int)) (k : Nat) (h : k < ls.length / 2) : (abvP ls).take (k + 1) = (abvP ls).take k ++ [nodeP (ls.getD (2 * k) []) (ls.getD (2 * k + 1) [])] := by
  rw [List.take_succ_eq_append_getElem (by rw [abvP_len]; exact h)]
  simp [abvP]
theorem lists_at {w : World} {ao : Option Addr} {n c : Nat} {l : List (Value × List Int)} {ls : List (List Int)} (hL : Lists w (.slice ao n c) l) (he : l.map (·.2) = ls) (i : Nat) (hi : i < ls.length) :
    ∃ b off ax nx cx, ao = some ⟨b, off, none⟩ ∧ w.cell? ⟨b, off + i, none⟩ = some (.slice ax nx cx) ∧ Sl w (.slice ax nx cx) (ls.getD i []) ∧ Bs (ls.getD i []) := by
  subst he
  obtain ⟨ao', c', e, _, h2⟩ := hL
  have hi2 : i < l.length := by simpa using hi
  obtain ⟨b, off, e2, h3, h4, h5⟩ := h2 i hi2
  injection e with e0
  subst e0
  have hg : (l.map (·.2)).getD i [] = l[i].2 := by simp [List.getD, hi2]
  rw [hg]
  obtain ⟨ax, cx, e4, _⟩ := id h4
  rw [e4] at h3 h4
  exact ⟨b, off, ax, _, cx, e2, h3, h4, h5⟩
set_option maxRecDepth 100000 in
set_option maxHeartbeats 4000000 in
theorem above_any (vl : Value) (l : List (Value × List Int)) (ls : List (List Int)) (hls : l.map (·.2) = ls) (hm : ∀ x ∈ ls, x.length ≤ 1000) (w : World) (hL : Lists w vl l) (hn : ls.length ≤ 100) (he : ls.length % 2 = 0) (hG : Gl w) :
    Calls Tryz.prog 125 #[vl] w fun e w' => ∃ ao m c, e = .returned (.slice ao m c) ∧ Acc w (abvP ls) (.slice ao m c) w' := by
  obtain ⟨i0, hi0, hz0, hz1, hz2⟩ := info_parts Tryz.infoSl
  have HG := hide hG
  have HL := hide hL
  have HLS := hide hls
  have HM := hide hm
  have hlen : l.length = ls.length := by rw [← hls]; simp
  obtain ⟨al, cl, hvl, _⟩ := hL
  rw [hlen] at hvl
  subst hvl
  obtain ⟨N, hN⟩ : ∃ N, N = ls.length := ⟨_, rfl⟩
  have HN := hide hN
  rw [← hN] at hn he HL ⊢
  obtain ⟨M, hM⟩ : ∃ M, M = N / 2 := ⟨_, rfl⟩
  have hNM : N = 2 * M := by omega
  have hq : Int.tdiv (N : Int) 2 = (M : Int) := by rw [Int.tdiv_eq_ediv_of_nonneg (by omega)]; omega
  have hq2 : (N : Int) / 2 = (M : Int) := by omega
  have hM100 : (M : Int) ≤ 100 := by omega
  have hNi : (N : Int) ≤ 100 := by omega
  have HNM := hide hNM
  clear hG hlen hls hm hN hM hNM
  go_enter Tryz.func125, Tryz.ntmps125
  go_wp2_with (at_make; refine wpList_make_own _ rfl _ _ 31 rfl w.heap.size 29 i0 (.slice none 0 0) 1 Tryz.underlying31 hi0 hz0 hz1 .i64 .i64 _ M rfl rfl (by omega) (by rw [hz2]; omega) (by unfold maxLen; omega) (Nat.le_refl _) ?_; intro w1 o1 g1; have K1 : Kp [] w w1 := (Kp.refl [] w).grown g1 (by intro k hk; cases hk); have R1 : RowV w1 w.heap.size _ [] := o1)
  have A1 : Hid (Acc w ((abvP ls).take 0) (.slice (some ⟨w.heap.size, 0, none⟩) 0 M) w1) := ⟨[], ⟨R1, fun x hx => by cases hx⟩, rfl, K1⟩
  clear o1 g1 R1 K1
  go_loopw [3, 4] (fun v i wr => ∃ (k m cc : Nat) (ao : Option Addr), k ≤ M ∧ v = .slice ao m cc ∧ i = .int .i64 ((2 * k : Nat) : Int) ∧ Acc w ((abvP ls).take k) v wr) (fun _ i _ => 2 * M - (intOf i).toNat)
  case atStart => exact ⟨0, 0, M, some ⟨w.heap.size, 0, none⟩, by omega, rfl, rfl, unhide A1⟩
  case round =>
    obtain ⟨k, m, cc, ao, hk, rfl, rfl, Ar⟩ := hrel
    clear A1
    have HA := hide Ar
    clear Ar
    obtain ⟨j, hj⟩ : ∃ j, j = 2 * k := ⟨_, rfl⟩
    rw [← hj]
    by_cases hlt : k < M
    · have hlt2 : (j : Int) < (N : Int) := by have := unhide HNM; omega
      have hlt3 : (j : Int) + 1 < (N : Int) := by have := unhide HNM; omega
      have hwr : IntKind.i64.wrap ((j : Int) + 1) = (j : Int) + 1 := wrap_at rfl (by omega) (by omega)
      obtain ⟨b, off, ax, nx, cx, rfl, hcx, hSx, hBx⟩ := lists_at (unhide HL) (unhide HLS) j (by have := unhide HN; have := unhide HNM; omega)
      obtain ⟨b', off', ay, ny, cy, e, hcy, hSy, hBy⟩ := lists_at (unhide HL) (unhide HLS) (j + 1) (by have := unhide HN; have := unhide HNM; omega)
      injection e with e
      injection e with e1 e2
      subst e1
      subst e2
      have hxl : (ls.getD j []).length ≤ 1000 := unhide HM _ (getD_mem (by have := unhide HN; have := unhide HNM; omega))
      have hyl : (ls.getD (j + 1) []).length ≤ 1000 := unhide HM _ (getD_mem (by have := unhide HN; have := unhide HNM; omega))
      obtain ⟨r, hr⟩ : ∃ r, r = nodeP (ls.getD j []) (ls.getD (j + 1) []) := ⟨_, rfl⟩
      have HRB : Hid (Bs r) := by rw [hr]; exact nodeP_bs _ _
      have HE : Hid ((abvP ls).take (k + 1) = (abvP ls).take k ++ [r]) := by rw [hr, hj]; exact abv_take ls k (by have := unhide HN; have := unhide HNM; omega)
      have HLN : Hid (((abvP ls).take k).length ≤ 1000000) := by rw [List.length_take]; show min k _ ≤ 1000000; omega
      obtain ⟨X, hX⟩ : ∃ X, X = ls.getD j [] := ⟨_, rfl⟩
      obtain ⟨Y, hY⟩ : ∃ Y, Y = ls.getD (j + 1) [] := ⟨_, rfl⟩
      rw [← hX] at hSx hBx hxl hr
      rw [← hY] at hSy hBy hyl hr
      have HKr := hide (unhide HA).kp
      have CX : ∀ w', Kp [] wr.drew w' → w'.cell? ⟨b, off + j, none⟩ = some (.slice ax nx cx) := fun w' k' => (((unhide HKr).trans (kp_drew wr)).trans k').cell hcx (by simp)
      have CY : ∀ w', Kp [] wr.drew w' → w'.cell? ⟨b, off + (j + 1), none⟩ = some (.slice ay ny cy) := fun w' k' => (((unhide HKr).trans (kp_drew wr)).trans k').cell hcy (by simp)
      have SX : ∀ w', Kp [] wr.drew w' → Sl w' (.slice ax nx cx) X := fun w' k' => hSx.kept (((unhide HKr).trans (kp_drew wr)).trans k') (by simp)
      have SY : ∀ w', Kp [] wr.drew w' → Sl w' (.slice ay ny cy) Y := fun w' k' => hSy.kept (((unhide HKr).trans (kp_drew wr)).trans k') (by simp)
      have GL : ∀ w', Kp [] wr.drew w' → Gl w' := fun w' k' => (unhide HG).kept (((unhide HKr).trans (kp_drew wr)).trans k') (by simp)
      have BS : ∀ w', Kp [] wr.drew w' → wr.heap.size ≤ w'.heap.size := fun w' k' => k'.size
      have HCX := hide CX
      have HCY := hide CY
      have HSX := hide SX
      have HSY := hide SY
      have HGL := hide GL
      have HR := hide hr
      have HBX := hide hBx
      have HBY := hide hBy
      clear hX hY hcx hcy hSx hSy hBx hBy hr CX CY SX SY GL BS
      have hjj : (j : Int) = 2 * (k : Int) := by omega
      have HJ := hide hjj
      have HJN := hide hj
      clear hjj hj
      go_wp2_with fail
      refine region_grow_tail 12 Tryz.mixed [Is (.slice ao m cc), Is (.slice (some ⟨b, off, none⟩) N cl), Is (.int .i64 j), Is (.pointer (some ⟨b, off + j, none⟩)), Is (.slice ax nx cx), Is (.slice (some ⟨b, off, none⟩) N cl), Is (.int .i64 j), Is (.int .i64 (j + 1)), Is (.pointer (some ⟨b, off + (j + 1), none⟩)), Is (.slice ay ny cy), RowT wr.heap.size r, One wr.heap.size r] [[(3, none)], [(0, none)], [(4, none)], [(16, some 1), (17, some 2)], [(18, some 3)], [(0, none)], [(4, none)], [(21, some 6)], [(20, some 5), (22, some 7)], [(23, some 8)], [(19, some 4), (24, some 9)], [(25, some 10)]] (by kernel_rfl) ?_ ?_ ?_
      all_goals try simp only [List.take_succ_cons, List.take_zero, List.drop_succ_cons, List.drop_zero]
      · simp only [List.mem_cons, List.not_mem_nil, or_false]
        intro R hR
        rcases hR with rfl | rfl | rfl | rfl | rfl | rfl | rfl | rfl | rfl | rfl | rfl | rfl <;> first | exact stable_is _ | exact stable_row _ _ | exact stable_one _ _
      · refine steps_cons (fun a w hk hn => ?_) ?_
        · have h3 : a.eval (.tmp 3) = .slice ao m cc := hn.1
          clear hn
          refine wants_plain rfl ?_
          exact grown_move (.tmp 3) rfl h3
        refine steps_cons (fun a w hk hn => ?_) ?_
        · have h0 : a.eval (.tmp 0) = .slice (some ⟨b, off, none⟩) N cl := hn.1
          clear hn
          refine wants_plain rfl ?_
          exact grown_move (.tmp 0) rfl h0
        refine steps_cons (fun a w hk hn => ?_) ?_
        · have h4 : a.eval (.tmp 4) = .int .i64 j := hn.1
          clear hn
          refine wants_plain rfl ?_
          exact grown_move (.tmp 4) rfl h4
        refine steps_cons (fun a w hk hn => ?_) ?_
        · have h16 : a.eval (.tmp 16) = .slice (some ⟨b, off, none⟩) N cl := hn.1
          have h17 : a.eval (.tmp 17) = .int .i64 j := hn.2.1
          clear hn
          refine wants_plain rfl ?_
          refine grown_run (v := .pointer (some ⟨b, off + j, none⟩)) ?_ (Kp.refl _ _) rfl
          obtain ⟨ρ, hρ, hc, hf, hg⟩ := eval_is a
          rw [hρ] at h16 h17 ⊢
          simp [go_sem, h16, h17, hlt2]
        refine steps_cons (fun a w hk hn => ?_) ?_
        · have h18 : a.eval (.tmp 18) = .pointer (some ⟨b, off + j, none⟩) := hn.1
          clear hn
          refine wants_plain rfl ?_
          refine grown_run (v := .slice ax nx cx) ?_ (Kp.refl _ _) rfl
          have hcell := unhide HCX w hk
          obtain ⟨ρ, hρ, hc, hf, hg⟩ := eval_is a
          rw [hρ] at h18 ⊢
          simp [go_sem, h18, hcell]
        refine steps_cons (fun a w hk hn => ?_) ?_
        · have h0 : a.eval (.tmp 0) = .slice (some ⟨b, off, none⟩) N cl := hn.1
          clear hn
          refine wants_plain rfl ?_
          exact grown_move (.tmp 0) rfl h0
        refine steps_cons (fun a w hk hn => ?_) ?_
        · have h4 : a.eval (.tmp 4) = .int .i64 j := hn.1
          clear hn
          refine wants_plain rfl ?_
          exact grown_move (.tmp 4) rfl h4
        refine steps_cons (fun a w hk hn => ?_) ?_
        · have h21 : a.eval (.tmp 21) = .int .i64 j := hn.1
          clear hn
          refine wants_plain rfl ?_
          refine grown_run (v := .int .i64 (j + 1)) ?_ (Kp.refl _ _) rfl
          obtain ⟨ρ, hρ, hc, hf, hg⟩ := eval_is a
          rw [hρ] at h21 ⊢
          simp [go_sem, hc, h21, hwr]
        refine steps_cons (fun a w hk hn => ?_) ?_
        · have h20 : a.eval (.tmp 20) = .slice (some ⟨b, off, none⟩) N cl := hn.1
          have h22 : a.eval (.tmp 22) = .int .i64 (j + 1) := hn.2.1
          clear hn
          refine wants_plain rfl ?_
          refine grown_run (v := .pointer (some ⟨b, off + (j + 1), none⟩)) ?_ (Kp.refl _ _) rfl
          obtain ⟨ρ, hρ, hc, hf, hg⟩ := eval_is a
          rw [hρ] at h20 h22 ⊢
          simp [go_sem, h20, h22, hlt3]
          intro h; omega
        refine steps_cons (fun a w hk hn => ?_) ?_
        · have h23 : a.eval (.tmp 23) = .pointer (some ⟨b, off + (j + 1), none⟩) := hn.1
          clear hn
          refine wants_plain rfl ?_
          refine grown_run (v := .slice ay ny cy) ?_ (Kp.refl _ _) rfl
          have hcell := unhide HCY w hk
          obtain ⟨ρ, hρ, hc, hf, hg⟩ := eval_is a
          rw [hρ] at h23 ⊢
          simp [go_sem, h23, hcell]
        refine steps_cons (fun a w hk hn => ?_) ?_
        · have h19 : a.eval (.tmp 19) = .slice ax nx cx := hn.1
          have h24 : a.eval (.tmp 24) = .slice ay ny cy := hn.2.1
          clear hn
          refine wants_plain rfl ?_
          refine grown_call (f := 133) rfl Tryz.func133 (by kernel_rfl) (by kernel_rfl) ?_
          simp only [List.map_toArray, List.map_cons, List.map_nil, h19, h24]
          refine (node_any _ _ X Y r (unhide HR) w (unhide HSX w hk) (unhide HBX) (unhide HSY w hk) (unhide HBY) hxl hyl (unhide HGL w hk)).mono ?_
          rintro e w' ⟨ao, m, c, rfl, R, K⟩
          exact ⟨_, rfl, K, owns_rebase R (fun i hi => Nat.le_trans hk.size (R.own i hi))⟩
        refine steps_cons (fun a w hk hn => ?_) ?_
        · have h25 : (RowT wr.heap.size r) (a.eval (.tmp 25)) w := hn.1
          clear hn
          refine wants_plain rfl ?_
          exact grown_one (.tmp 25) rfl wr.heap.size r h25
        exact trivial
      intro W1 hkW1
      rintro _ rfl
      rintro _ rfl
      rintro _ rfl
      rintro _ rfl
      rintro _ rfl
      rintro _ rfl
      rintro _ rfl
      rintro _ rfl
      rintro _ rfl
      rintro _ rfl
      intro v25 h25
      intro v26 h26
      refine fin_nil ?_
      simp only [Act.put, List.set_cons_zero, List.set_cons_succ, List.setIfInBounds_toArray]
      go_wp2_with (at_builtin; refine wpList_accg rfl (.tmp 15) (.tmp 26) rfl _ _ rfl (unhide HA) (unhide HLN) r ((kp_drew wr).trans hkW1) v26 rfl h26 (unhide HRB) ?_; intro ao5 m5 c5 w5 A5)
      go_roundw
      case rel => exact ⟨k + 1, m5, c5, ao5, by omega, rfl, by have := unhide HJ; go_num, by have e := unhide HE; rw [← e] at A5; exact A5⟩
      case measure => simp [intOf]; have := unhide HJN; omega
    · obtain rfl : k = M := by omega
      have hlt2 : ¬ (j : Int) < (N : Int) := by have := unhide HNM; omega
      have HT : Hid ((abvP ls).take k = abvP ls) := List.take_of_length_le (by rw [abvP_len]; have := unhide HN; have := unhide HNM; omega)
      clear hj
      go_wp2_with fail
      go_ret
      exact ⟨ao, m, cc, rfl, by have := unhide HA; rw [unhide HT] at this; exact this⟩
end Go.Proofs.YtillhpgdlmeajabGreatDoor

/-
  The contracts of package sign's pathOf, ledUp and Public.
-/
namespace Go.Proofs.YtillhpgdlmeajabGreatDoor
open Go.RowKit
open Go.Proofs
/-- rows of slices that are gathered, while blocks in S may change: the slices lie in blocks of which F holds. -/
def AccS (S : List Nat) (F : Nat → Prop) (w : World) (ls : List (List Int)) (v : Value) (wr : World) : Prop := ∃ l, RowS wr w.heap.size v l ∧ l.map (·.2) = ls ∧ Kp S w wr ∧ ∀ x ∈ l, ∀ q, x.1.ownBlock = some q → F q
theorem AccS.mid {S : List Nat} {F : Nat → Prop} {w wr w2 : World} {ls : List (List Int)} {v : Value} (h : AccS S F w ls v wr) (k : Kp [] wr w2) : AccS S F w ls v w2 := by
  obtain ⟨l, h1, h2, h3, h4⟩ := h
  exact ⟨l, h1.kept k, h2, h3.trans (k.mono (by simp)), h4⟩
theorem AccS.kp {S : List Nat} {F : Nat → Prop} {w wr : World} {ls : List (List Int)} {v : Value} (h : AccS S F w ls v wr) : Kp S w wr := by obtain ⟨_, _, _, h3, _⟩ := h; exact h3
theorem AccS.lt {S : List Nat} {F : Nat → Prop} {w wr : World} {ls : List (List Int)} {v : Value} (h : AccS S F w ls v wr) : ∀ q, v.ownBlock = some q → q < wr.heap.size := by obtain ⟨_, h1, _, _⟩ := h; exact fun q hq => h1.1.lt hq
theorem AccS.lists {S : List Nat} {F : Nat → Prop} {w wr : World} {ls : List (List Int)} {v : Value} (h : AccS S F w ls v wr) (hl : ls.length ≤ 1000) : ∃ l, Lists wr v l ∧ l.map (·.2) = ls ∧ (∀ q, v.ownBlock = some q → w.heap.size ≤ q) ∧ ∀ x ∈ l, ∀ q, x.1.ownBlock = some q → F q := by
  obtain ⟨l, h1, h2, _, h4⟩ := h
  exact ⟨l, h1.lists (by rw [← List.length_map (f := (·.2)), h2]; exact hl), h2, h1.1.own, h4⟩
theorem Sl.lt {w : World} {v : Value} {bs : List Int} (h : Sl w v bs) (hb : bs ≠ []) : ∀ q, v.ownBlock = some q → q < w.heap.size := by
  obtain ⟨ao, c, rfl, h1, h2, h3, h4⟩ := h
  intro q hq
  cases ao with
  | none => cases hq
  | some a =>
    have hp : 0 < bs.length := List.length_pos_iff.2 hb
    have hc := h4 a rfl 0 (.int .u8 bs[0]) (by simp [List.getElem?_eq_getElem hp])
    have := World.block_lt_of_cell? _ _ hc
    rw [add_block] at this
    have e : a.block = q := by simpa [Value.ownBlock] using hq
    omega
theorem RowS.snoc {w3 w4 : World} {base : Nat} {v v' vx : Value} {bs : List Int} {l : List (Value × List Int)} (h : RowS w3 base v l) (hx : Sl w3 vx bs) (hB : Bs bs) (ha : ∀ q, vx.ownBlock = some q → v.ownBlock = some q → bs = [])
    (r : RowV w4 base v' (l.map (·.1) ++ [vx])) (s : RStep w3 v w4 v') : RowS w4 base v' (l ++ [(vx, bs)]) := by
  have one : ∀ (x : Value) (cs : List Int), Sl w3 x cs → (∀ q, x.ownBlock = some q → v.ownBlock = some q → cs = []) → Sl w4 x cs ∧ ∀ q, x.ownBlock = some q → v'.ownBlock = some q → cs = [] := by
    intro x cs hS hA
    refine ⟨hS.apart s.1 (fun q hq hm => hA q hq (by simpa using hm)), fun q hq hv => ?_⟩
    by_cases hc : cs = []
    · exact hc
    · rcases s.2 q hv with h1 | h1
      · exact hA q hq h1
      · have := hS.lt hc q hq; omega
  refine ⟨by rw [List.map_append]; exact r, fun y hy => ?_⟩
  rcases List.mem_append.1 hy with hy | hy
  · obtain ⟨h1, h2, h3⟩ := h.2 y hy
    exact ⟨(one y.1 y.2 h1 h3).1, h2, (one y.1 y.2 h1 h3).2⟩
  · obtain rfl : y = (vx, bs) := by simpa using hy
    exact ⟨(one vx bs hx ha).1, hB, (one vx bs hx ha).2⟩
/-- one more slice, that lies wherever it lies, behind them. -/
theorem wpList_accs {S : List Nat} {F : Nat → Prop} {w wr : World} {ops : Array Oper} {rest : List Oper} {o : Oper} {a : Act} {Q : Exit → Act → World → Prop} (hgd : o.guard = none) (s x : Operand)
    (ho : o.op = .call { callee := .builtin .append, args := #[s, x], argTypes := #[31, 31] }) (v : Value) (ls : List (List Int)) (hs : a.eval s = v) (hA : AccS S F w ls v wr) (hl : ls.length ≤ 1000000)
    (vx : Value) (bs : List Int) (hS : Sl wr vx bs) (hB : Bs bs) (hap : ∀ q, vx.ownBlock = some q → v.ownBlock = some q → bs = []) (hF : ∀ q, vx.ownBlock = some q → F q) (hx : a.eval x = .slice (some ⟨wr.heap.size, 0, none⟩) 1 1)
    (h : ∀ ao m c w', AccS S F w (ls ++ [bs]) (.slice ao m c) w' → RStep wr v w' (.slice ao m c) → wpList Tryz.prog ops Q rest (a.put o.dst (.slice ao m c)) w') : wpList Tryz.prog ops Q (o :: rest) a (wr.alloc (.cells #[vx] 29)) := by
  obtain ⟨l, hP, hl2, hK, hF4⟩ := hA
  have Ka := (Kp.refl [] wr).alloc (.cells #[vx] 29)
  have hP2 := hP.kept Ka
  obtain ⟨ax, cx, hvx, _⟩ := id hS
  refine wpList_append_rowv hgd s x ho w.heap.size v (l.map (·.1)) hs hP2.1 ⟨wr.heap.size, 0, none⟩ 1 [vx] hx ?_ ?_ ?_ ?_ ?_
  · intro j u hu
    exact World.news_of_block (heap_alloc_new wr _) j u (by simpa using hu)
  · simp [hvx, Value.oneCell']
  · have : l.length = ls.length := by rw [← hl2]; simp
    simp; omega
  · have := hK.size
    simp; omega
  · intro ao m c w' r st
    refine h ao m c w' ⟨l ++ [(vx, bs)], hP2.snoc (hS.kept Ka (by simp)) hB hap r st, by simp [hl2], ?_, fun y hy => ?_⟩ (st.after Ka)
    · exact (hK.trans (Ka.mono (by simp))).then st.1 (fun i hi => .inr (hP.1.own i (by simpa using hi)))
    · rcases List.mem_append.1 hy with hy | hy
      · exact hF4 y hy
      · obtain rfl : y = (vx, bs) := by simpa using hy
        exact hF
theorem Lists.off {w w' : World} {v : Value} {l : List (Value × List Int)} {S : List Nat} (h : Lists w v l) (k : Kp S w w') (hv : ∀ q, v.ownBlock = some q → q ∉ S) (hy : ∀ y ∈ l, ∀ q, y.1.ownBlock = some q → q ∉ S) : Lists w' v l := by
  obtain ⟨ao, c, rfl, h1, h2⟩ := h
  refine ⟨ao, c, rfl, h1, fun i hi => ?_⟩
  obtain ⟨b, off, e, h3, h4, h5⟩ := h2 i hi
  subst e
  exact ⟨b, off, rfl, k.cell h3 (hv b rfl), h4.kept k (hy _ (List.getElem_mem hi)), h5⟩
/-- a level of nodes that lies apart from pv. -/
def LvA (F : Nat → Prop) (w : World) (v : Value) (ls : List (List Int)) (pv : Value) : Prop :=
  ∃ l, Lists w v l ∧ l.map (·.2) = ls ∧ (∀ q, v.ownBlock = some q → q < w.heap.size ∧ pv.ownBlock ≠ some q) ∧ ∀ y ∈ l, ∀ q, y.1.ownBlock = some q → (q < w.heap.size ∧ pv.ownBlock ≠ some q) ∧ F q
theorem LvA.of_acc {F : Nat → Prop} {w1 w2 : World} {v pv : Value} {ls : List (List Int)} (h : Acc w1 ls v w2) (hl : ls.length ≤ 1000) (hp : ∀ q, pv.ownBlock = some q → q < w1.heap.size) (hF : ∀ q, w1.heap.size ≤ q → F q) : LvA F w2 v ls pv := by
  obtain ⟨l, h1, h2, h3⟩ := h
  refine ⟨l, h1.lists (by rw [← List.length_map (f := (·.2)), h2]; exact hl), h2, fun q hq => ⟨h1.1.lt hq, fun e => ?_⟩, fun y hy q hq => ⟨⟨(h1.2 y hy).1.lt hq, fun e => ?_⟩, hF q ((h1.2 y hy).1.own q hq)⟩⟩
  · have := h1.1.own q hq; have := hp q e; omega
  · have := (h1.2 y hy).1.own q hq; have := hp q e; omega
theorem LvA.step {F : Nat → Prop} {w w' : World} {v pv pv' : Value} {ls : List (List Int)} (h : LvA F w v ls pv) (s : RStep w pv w' pv') : LvA F w' v ls pv' := by
  obtain ⟨l, h1, h2, h3, h4⟩ := h
  have key : ∀ q, q < w.heap.size ∧ pv.ownBlock ≠ some q → q < w'.heap.size ∧ pv'.ownBlock ≠ some q := fun q ⟨a, b⟩ => ⟨Nat.lt_of_lt_of_le a s.1.size, fun e => by
    rcases s.2 q e with h5 | h5
    · exact b h5
    · omega⟩
  exact ⟨l, h1.off s.1 (fun q hq hm => (h3 q hq).2 (by simpa using hm)) (fun y hy q hq hm => (h4 y hy q hq).1.2 (by simpa using hm)), h2, fun q hq => key q (h3 q hq), fun y hy q hq => ⟨key q (h4 y hy q hq).1, (h4 y hy q hq).2⟩⟩
theorem LvA.at {F : Nat → Prop} {w : World} {ao : Option Addr} {n c : Nat} {pv : Value} {ls : List (List Int)} (h : LvA F w (.slice ao n c) ls pv) (i : Nat) (hi : i < ls.length) :
    ∃ b off ax nx cx, ao = some ⟨b, off, none⟩ ∧ w.cell? ⟨b, off + i, none⟩ = some (.slice ax nx cx) ∧ Sl w (.slice ax nx cx) (ls.getD i []) ∧ Bs (ls.getD i []) ∧ n = ls.length ∧ ∀ q, (Value.slice ax nx cx).ownBlock = some q → pv.ownBlock ≠ some q ∧ F q := by
  obtain ⟨l, hL, he, _, h4⟩ := h
  subst he
  obtain ⟨ao', c', e, _, h2⟩ := hL
  have hi2 : i < l.length := by simpa using hi
  obtain ⟨b, off, e2, h3, h5, h6⟩ := h2 i hi2
  injection e with e0 e1
  subst e0
  have hg : (l.map (·.2)).getD i [] = l[i].2 := by simp [List.getD, hi2]
  rw [hg]
  have h7 := h4 l[i] (List.getElem_mem hi2)
  obtain ⟨ax, cx, e4, _⟩ := id h5
  rw [e4] at h3 h5 h7
  exact ⟨b, off, ax, _, cx, e2, h3, h5, h6, by simp [e1], fun q hq => ⟨(h7 q hq).1.2, (h7 q hq).2⟩⟩
theorem sib_xor (x : Nat) (h : x < 16) : bits .xor .i64 (x : Int) 1 = (sibP x : Int) := by
  have h2 : ∀ m ∈ List.range 16, bits .xor .i64 (m : Int) 1 = (sibP m : Int) := by decide +kernel
  exact h2 x (by simpa using h)
theorem lv_even (bs : List Int) (k : Nat) (h : k < 4) : (lvP bs k).length % 2 = 0 := by
  rw [lvP_len]
  rcases (by omega : k = 0 ∨ k = 1 ∨ k = 2 ∨ k = 3) with rfl | rfl | rfl | rfl <;> decide
theorem lv_le (bs : List Int) (k : Nat) : (lvP bs k).length ≤ 16 := by rw [lvP_len]; exact Nat.div_le_self _ _
set_option maxRecDepth 100000 in
set_option maxHeartbeats 2000000 in
theorem pathOf_any (vb : Value) (bs : List Int) (i : Nat) (w : World) (hS : Sl w vb bs) (hB : Bs bs) (hl : bs.length ≤ 1000) (hi : i < 16) (hG : Gl w) :
    Calls Tryz.prog 113 #[vb, .int .i64 i] w fun e w' => ∃ ao m c, e = .returned (.slice ao m c) ∧ AccS [] (w.heap.size ≤ ·) w (pthP bs i 4) (.slice ao m c) w' := by
  obtain ⟨i0, hi0, hz0, hz1, hz2⟩ := info_parts Tryz.infoSl
  have HS := hide hS
  have HG := hide hG
  have HB := hide hB
  obtain ⟨ab, cb, hvb, _⟩ := hS
  obtain ⟨nb, hnb⟩ : ∃ n, n = bs.length := ⟨_, rfl⟩
  rw [← hnb] at hvb
  subst hvb
  clear hG hB hnb
  go_enter Tryz.func113, Tryz.ntmps113
  go_wp2_with (at_make; refine wpList_make_own _ rfl _ _ 31 rfl w.heap.size 29 i0 (.slice none 0 0) 1 Tryz.underlying31 hi0 hz0 hz1 .i64 .i64 _ 4 rfl rfl (by omega) (by rw [hz2]; omega) (by unfold maxLen; omega) (Nat.le_refl _) ?_; intro w1 o1 g1; have K1 : Kp [] w w1 := (Kp.refl [] w).grown g1 (by intro k hk; cases hk); have R1 : RowV w1 w.heap.size _ [] := o1)
  have A1 : Hid (AccS [] (w.heap.size ≤ ·) w (pthP bs i 0) (.slice (some ⟨w.heap.size, 0, none⟩) 0 4) w1) := ⟨[], ⟨R1, fun x hx => by cases hx⟩, rfl, K1, fun x hx => by cases hx⟩
  have HC := hide (leaves_any (.slice ab nb cb) bs w1 ((unhide HS).kept K1 (by simp)) (unhide HB) hl ((unhide HG).kept K1 (by simp)))
  clear o1 g1 R1 K1
  refine (unhide HC).mono ?_
  rintro ee w2 ⟨a2, m2, c2, rfl, A2⟩
  have V2 : Hid (LvA (w.heap.size ≤ ·) w2 (.slice a2 m2 c2) (lvP bs 0) (.slice (some ⟨w.heap.size, 0, none⟩) 0 4)) := LvA.of_acc A2 (by have := lv_le bs 0; omega) (unhide A1).lt (fun q hq => Nat.le_trans (unhide A1).kp.size hq)
  have A3 := hide ((unhide A1).mid A2.kp)
  clear HC A1 A2
  go_wp2_with fail
  go_loopw [5, 6, 1, 10] (fun v lv x j wr => ∃ (k m cc m2 c2 : Nat) (ao a2 : Option Addr), k ≤ 4 ∧ v = .slice ao m cc ∧ lv = .slice a2 m2 c2 ∧ x = .int .i64 ((i / 2 ^ k : Nat) : Int) ∧ j = .int .i64 k ∧ AccS [] (w.heap.size ≤ ·) w (pthP bs i k) v wr ∧ LvA (w.heap.size ≤ ·) wr lv (lvP bs k) v) (fun _ _ _ j _ => 4 - (intOf j).toNat)
  case atStart => exact ⟨0, 0, 4, m2, c2, some ⟨w.heap.size, 0, none⟩, a2, by omega, rfl, rfl, by simp, rfl, unhide A3, unhide V2⟩
  case round =>
    clear A3 V2
    obtain ⟨k, m, cc, m3, c3, ao, a3, hk, rfl, rfl, rfl, rfl, Ar, Vr⟩ := hrel
    have HA := hide Ar
    have HV := hide Vr
    clear Ar Vr
    by_cases hlt : k < 4
    · have hlt2 : (k : Int) < 4 := by omega
      have hx16 : i / 2 ^ k < 16 := Nat.lt_of_le_of_lt (Nat.div_le_self _ _) hi
      have hsl : sibP (i / 2 ^ k) < (lvP bs k).length := by rw [lvP_len]; exact sib_lv hi hlt
      have hxor := sib_xor _ hx16
      have hE := pthP_succ bs i k
      obtain ⟨b, off, ax, nx, cx, rfl, hc, hSx, hBx, hm3, hap⟩ := (unhide HV).at _ hsl
      have hev := lv_even bs k hlt
      have hle := lv_le bs k
      have hq : Int.tdiv ((i / 2 ^ k : Nat) : Int) 2 = ((i / 2 ^ (k + 1) : Nat) : Int) := by rw [Int.tdiv_eq_ediv_of_nonneg (Int.natCast_nonneg _), Nat.pow_succ, ← Nat.div_div_eq_div_mul]; omega
      have hq2 : ((i / 2 ^ k : Nat) : Int) / 2 = ((i / 2 ^ (k + 1) : Nat) : Int) := by rw [Nat.pow_succ, ← Nat.div_div_eq_div_mul]; omega
      rw [← hm3] at hsl
      obtain ⟨x, hx⟩ : ∃ x, x = i / 2 ^ k := ⟨_, rfl⟩
      obtain ⟨y, hy⟩ : ∃ y, y = i / 2 ^ (k + 1) := ⟨_, rfl⟩
      obtain ⟨s, hs⟩ : ∃ s, s = sibP x := ⟨_, rfl⟩
      rw [← hx] at hxor hsl hE hc hSx hBx hq hq2 hx16 ⊢
      rw [← hs] at hxor hsl hE hc hSx hBx
      rw [← hy] at hq hq2
      have hsi : (s : Int) < (m3 : Int) := by omega
      obtain ⟨X, hX⟩ : ∃ X, X = (lvP bs k).getD s [] := ⟨_, rfl⟩
      rw [← hX] at hE hSx hBx
      have HE := hide hE
      have HSx := hide hSx
      have HBx := hide hBx
      have HAP := hide hap
      have HY := hide hy
      have HEV := hide hev
      have HLE := hide hle
      have HM3 := hide hm3
      have HLN : Hid ((pthP bs i k).length ≤ 1000000) := by rw [pthP_len]; show k ≤ 1000000; omega
      clear hE hSx hBx hap hy hx hs hX hev hle hm3
      go_wp2_with (at_builtin; refine wpList_accs rfl (.tmp 12) (.tmp 18) rfl _ _ rfl (unhide HA) (unhide HLN) _ X (unhide HSx) (unhide HBx) (fun q h1 h2 => absurd h2 (unhide HAP q h1).1) (fun q h1 => (unhide HAP q h1).2) rfl ?_; intro ao5 m5 c5 w5 A5 S5)
      have HA5 := hide A5
      have HV5 := hide ((unhide HV).step S5)
      clear A5 S5 HV HA HSx HAP
      have HAB : Hid (∃ l, Lists w5 (.slice (some ⟨b, off, none⟩) m3 c3) l ∧ l.map (·.2) = lvP bs k) := by obtain ⟨l, h1, h2, _⟩ := unhide HV5; exact ⟨l, h1, h2⟩
      obtain ⟨ll, hll, hle⟩ := unhide HAB
      have HC := hide (above_any (.slice (some ⟨b, off, none⟩) m3 c3) ll (lvP bs k) hle (fun x hx => by rw [(lvP_all bs k x hx).1]; omega) w5 hll (by have := unhide HLE; omega) (unhide HEV) ((unhide HG).kept (unhide HA5).kp (by simp)))
      clear hll hle HAB
      refine (unhide HC).mono ?_
      rintro ee w6 ⟨a6, m6, c6, rfl, A6⟩
      have HV6 : Hid (LvA (w.heap.size ≤ ·) w6 (.slice a6 m6 c6) (lvP bs (k + 1)) (.slice ao5 m5 c5)) := LvA.of_acc A6 (by have := lv_le bs (k + 1); omega) (unhide HA5).lt (fun q hq => Nat.le_trans (unhide HA5).kp.size hq)
      have HA6 := hide ((unhide HA5).mid A6.kp)
      clear HC A6 HA5 HV5
      go_wp2_with fail
      go_roundw
      case rel => exact ⟨k + 1, m5, c5, m6, c6, ao5, a6, by omega, rfl, rfl, by rw [← unhide HY], by go_num, by have e := unhide HE; rw [← e] at HA6; exact unhide HA6, unhide HV6⟩
      case measure => simp [intOf]; omega
    · obtain rfl : k = 4 := by omega
      clear HV
      go_wp2_with fail
      go_ret
      exact ⟨ao, m, cc, rfl, unhide HA⟩
end Go.Proofs.YtillhpgdlmeajabGreatDoor

/-
  Signatures that stay as they are, whatever becomes of the blocks below.
-/
namespace Go.Proofs.YtillhpgdlmeajabGreatDoor
open Go.RowKit
/-- a signature that stays so, whatever becomes of the blocks below b. -/
def SigA (b : Nat) (w : World) (v : Value) (i : Int) (ps qs : List (List Int)) : Prop := ∀ (S : List Nat) (w2 : World), (∀ q ∈ S, q < b) → Kp S w w2 → SigV w2 v i ps qs
theorem SigA.v {b : Nat} {w : World} {v : Value} {i : Int} {ps qs : List (List Int)} (h : SigA b w v i ps qs) : SigV w v i ps qs := h [] w (by simp) (Kp.refl _ _)
theorem SigA.kept {b : Nat} {w w' : World} {v : Value} {i : Int} {ps qs : List (List Int)} {S : List Nat} (h : SigA b w v i ps qs) (hS : ∀ q ∈ S, q < b) (k : Kp S w w') : SigA b w' v i ps qs := fun S2 w2 h2 k2 =>
  h (S ++ S2) w2 (fun q hq => (List.mem_append.1 hq).elim (hS q) (h2 q)) ((k.mono (by simp; intro x hx; exact .inl hx)).trans (k2.mono (by simp; intro x hx; exact .inr hx)))
end Go.Proofs.YtillhpgdlmeajabGreatDoor

/-
  The contracts of package sign's Sign and Verify.
-/
namespace Go.Proofs.YtillhpgdlmeajabGreatDoor
open Go.RowKit
open Go.Proofs
theorem Tryz.sigSize : (Tryz.prog.info? 52).map (·.size) = some 3 := by kernel_rfl
theorem load_sig (w : World) (g : Nat) (x y z : Value) (fr : Nat × Nat) (hg : w.heap[g]? = some (.cells #[x, y, z] 52 fr)) : (loadVar 52 ⟨g, 0, none⟩).run Tryz.prog w = .ok (.agg #[x, y, z]) w :=
  run_loadVar_row w g 52 52 #[x, y, z] fr _ hg Tryz.underlying52 rfl Tryz.sigSize
theorem results_sig {fn : Func} {p u : Tmp} (h : fn.results = #[.cell p 52, .tmp u]) (tmps : Array Value) (w : World) (g : Nat) (x y z : Value) (fr : Nat × Nat)
    (hp : tmps.getD p undef = .pointer (some ⟨g, 0, none⟩)) (hg : w.heap[g]? = some (.cells #[x, y, z] 52 fr)) : (results fn tmps).run Tryz.prog w = .ok (.tuple #[.agg #[x, y, z], tmps.getD u undef]) w := by
  rw [results_cell_tmp h, hp]
  simp [asAddr, Result.andThen, load_sig w g x y z fr hg]
/-- a signature that is stored whole. -/
theorem wpList_store_sig {w : World} {ops : Array Oper} {rest : List Oper} {o : Oper} {a : Act} {Q : Exit → Act → World → Prop} (hgd : o.guard = none) (p u : Operand) (ho : o.op = .store 52 p u) (g : Nat) (hp : a.eval p = .pointer (some ⟨g, 0, none⟩)) (x0 y0 z0 x y z : Value)
    (hg : w.heap[g]? = some (.cells #[x0, y0, z0] 52 (0, 0))) (hu : a.eval u = .agg #[x, y, z]) (h1 : x.oneCell' = true ∧ y.oneCell' = true ∧ z.oneCell' = true)
    (h : ∀ w', w'.heap[g]? = some (.cells #[x, y, z] 52 (0, 0)) → Kp [g] w w' → wpList Tryz.prog ops Q rest (a.put o.dst undef) w') : wpList Tryz.prog ops Q (o :: rest) a w := by
  refine wpList_store_mid hgd 52 p u ho g 0 #[x, y, z] hp hu ?_ (by simpa using Tryz.sigSize) (all_oneCell_toArray (by simp [h1])) ?_
  · intro j hj
    simp only [List.size_toArray, List.length_cons, List.length_nil] at hj
    rw [Nat.zero_add, cell_of_row w g j _ _ _ hg]
    refine ⟨?_, frozen_of_row w g j _ _ hg⟩
    rcases (by omega : j = 0 ∨ j = 1 ∨ j = 2) with rfl | rfl | rfl <;> rfl
  · refine h _ ?_ (kp_setCells w g _ 0 w (Kp.refl _ _))
    simp only [World.setCells]
    have e1 := heap_setCell_same w g 0 _ _ x hg
    have e2 := heap_setCell_same (w.setCell ⟨g, 0, none⟩ x) g 1 _ _ y e1
    have e3 := heap_setCell_same ((w.setCell ⟨g, 0, none⟩ x).setCell ⟨g, 1, none⟩ y) g 2 _ _ z e2
    simpa using e3
set_option maxRecDepth 100000 in
set_option maxHeartbeats 2000000 in
theorem ssign_anyA (vb : Value) (bs : List Int) (i : Nat) (vm : Value) (ms : List Int) (d : Int) (hd : d = digP ms) (w : World) (hS : Sl w vb bs) (hB : Bs bs) (hl : bs.length = 32) (hi : i < 16) (hM : Sl w vm ms) (hMB : Bs ms) (hml : ms.length ≤ 1000) (hG : Gl w) :
    Calls Tryz.prog 97 #[vb, .int .i64 i, vm] w fun e w' => ∃ v, e = .returned (.tuple #[v, .int .i64 0]) ∧ SigA w.heap.size w' v i (sgnP bs i d) (pthP bs i 4) ∧ Kp [] w w' := by
  have HS := hide hS
  have HG := hide hG
  have HB := hide hB
  have HM := hide hM
  have HMB := hide hMB
  have HD := hide hd
  obtain ⟨ob, hob⟩ : ∃ o : Obj, o = (.cells #[.int .i64 0, .slice none 0 0, .slice none 0 0] 52) := ⟨_, rfl⟩
  have K1 : Kp [] w (w.alloc ob) := (Kp.refl [] w).alloc ob
  have HI := hide (isSeed_any vb bs (w.alloc ob) (hS.kept K1 (by simp)) hl)
  have HK := hide (isKey_any i true (by simp; omega) (w.alloc ob))
  have HC := hide (sign_any vb bs i vm ms d hd (w.alloc ob) (hS.kept K1 (by simp)) hB (by omega) (hM.kept K1 (by simp)) hMB hml (hG.kept K1 (by simp)))
  rw [hob] at K1 HI HK HC
  have HK1 := hide K1
  obtain ⟨ab, cb, hvb, _⟩ := hS
  obtain ⟨nb, hnb⟩ : ∃ n, n = bs.length := ⟨_, rfl⟩
  rw [← hnb] at hvb
  subst hvb
  obtain ⟨am, cm, hvm, _⟩ := hM
  obtain ⟨nm, hnm⟩ : ∃ n, n = ms.length := ⟨_, rfl⟩
  rw [← hnm] at hvm
  subst hvm
  clear hG hB hnb hnm hMB hd hob K1
  go_enter Tryz.func97, Tryz.ntmps97
  go_wp2_with fail
  refine (unhide HI).mono ?_
  rintro ee w1 ⟨rfl, hw⟩
  subst w1
  go_wp2_with fail
  refine (unhide HK).mono ?_
  rintro ee w1 ⟨rfl, hw⟩
  subst w1
  go_wp2_with fail
  refine (unhide HC).mono ?_
  rintro ee w2 ⟨a2, m2, c2, rfl, A2⟩
  have HA2 := hide (A2.after (unhide HK1))
  have HL2 : Hid (∃ l, Lists w2 (.slice a2 m2 c2) l ∧ l.map (·.2) = sgnP bs i d ∧ (∀ q, (Value.slice a2 m2 c2).ownBlock = some q → w.heap.size < q) ∧ ∀ x ∈ l, ∀ q, x.1.ownBlock = some q → w.heap.size < q) := by
    obtain ⟨l, h1, h2, _⟩ := A2
    have hz : ∀ o : Obj, (w.alloc o).heap.size = w.heap.size + 1 := fun o => by simp
    refine ⟨l, h1.lists (by rw [← List.length_map (f := (·.2)), h2, sgnP, ptsP_len]; omega), h2, fun q hq => ?_, fun x hx q hq => ?_⟩
    · have := h1.1.own q hq; rw [hz] at this; omega
    · have := (h1.2 x hx).1.own q hq; rw [hz] at this; omega
  have HG2 : Hid (w2.heap[w.heap.size]? = some (.cells #[.int .i64 0, .slice none 0 0, .slice none 0 0] 52)) := A2.kp.heap (heap_alloc_new w _) (by simp)
  have HP := hide (pathOf_any (.slice ab nb cb) bs i w2 ((unhide HS).kept (unhide HA2).kp (by simp)) (unhide HB) (by omega) hi ((unhide HG).kept (unhide HA2).kp (by simp)))
  clear HI HK HC A2 HK1
  go_wp2_with fail
  refine (unhide HP).mono ?_
  rintro ee w3 ⟨a3, m3, c3, rfl, A3⟩
  have HA3 := hide A3
  have HG3 : w3.heap[w.heap.size]? = some (.cells #[.int .i64 0, .slice none 0 0, .slice none 0 0] 52) := A3.kp.heap (unhide HG2) (by simp)
  have HG2' := unhide HG2
  clear HP A3 HG2
  go_wp2_with (refine wpList_store_sig rfl (.tmp 6) (.tmp 24) rfl w.heap.size rfl _ _ _ _ _ _ HG3 rfl ⟨rfl, rfl, rfl⟩ ?_; intro w4 G4 K4)
  have HK4 : Hid (Kp [] w w4) := (((unhide HA2).kp).trans (unhide HA3).kp).then K4 (by simp)
  have hlt : w.heap.size < w3.heap.size := (Array.getElem?_eq_some_iff.1 HG3).1
  have hsz2 : w.heap.size < w2.heap.size := (Array.getElem?_eq_some_iff.1 HG2').1
  have HV : Hid (SigA w.heap.size w4 (.agg #[.int .i64 i, .slice a2 m2 c2, .slice a3 m3 c3]) i (sgnP bs i d) (pthP bs i 4)) := by
    intro S5 w5 hS5 k5
    have K5 : Kp (w.heap.size :: S5) w3 w5 := (K4.mono (by simp)).trans (k5.mono (by simp; intro x hx; exact .inr hx))
    have hn : ∀ q ∈ w.heap.size :: S5, q ≤ w.heap.size := fun q hq => by rcases List.mem_cons.1 hq with e | e; exact Nat.le_of_eq e; exact Nat.le_of_lt (hS5 q e)
    obtain ⟨lp, h1, h2, h3, h4⟩ := unhide HL2
    obtain ⟨lq, g1, g2, g3, g4⟩ := (unhide HA3).lists (by rw [pthP_len]; omega)
    refine ⟨_, _, lp, lq, rfl, (h1.kept (unhide HA3).kp).off K5 (fun q hq hm => by have := h3 q hq; have := hn q hm; omega) (fun y hy q hq hm => by have := h4 y hy q hq; have := hn q hm; omega), h2, g1.off K5 (fun q hq hm => ?_) (fun y hy q hq hm => ?_), g2⟩
    · have := g3 q hq; have := hn q hm; omega
    · have := g4 y hy q hq; have := hn q hm; omega
  refine bodyPost_ret (results_sig rfl _ _ w.heap.size _ _ _ (0, 0) rfl G4) rfl ?_
  exact ⟨_, rfl, unhide HV, unhide HK4⟩
end Go.Proofs.YtillhpgdlmeajabGreatDoor

/-
  The contracts of package sign's readHashes and Decode.
-/
namespace Go.Proofs.YtillhpgdlmeajabGreatDoor
open Go.RowKit
open Go.Proofs
/-- a block that is no part of it changes. -/
theorem AccS.off {S : List Nat} {F : Nat → Prop} {w wr w2 : World} {ls : List (List Int)} {v : Value} {q : Nat} (h : AccS S F w ls v wr) (k : Kp [q] wr w2) (hq : q ∈ S) (hF : ∀ i, F i → i ≠ q) (hlt : q < w.heap.size) : AccS S F w ls v w2 := by
  obtain ⟨l, ⟨h1, h1'⟩, h2, h3, h4⟩ := h
  refine ⟨l, ⟨h1.kept k (fun i hi => ?_), fun x hx => ⟨(h1' x hx).1.kept k (fun i hi => by simpa using hF i (h4 x hx i hi)), (h1' x hx).2⟩⟩, h2, h3.trans (k.mono (by simpa using hq)), h4⟩
  have := h1.own i hi
  simp; omega
theorem Lists.old {w w' : World} {v : Value} {l : List (Value × List Int)} {S : List Nat} (h : Lists w v l) (k : Kp S w w') (hS : ∀ q ∈ S, w.heap.size ≤ q) : Lists w' v l := by
  obtain ⟨ao, c, rfl, h1, h2⟩ := h
  refine ⟨ao, c, rfl, h1, fun i hi => ?_⟩
  obtain ⟨b, off, e, h3, h4, h5⟩ := h2 i hi
  subst e
  have hb := World.block_lt_of_cell? _ _ h3
  exact ⟨b, off, rfl, k.cell h3 (fun hm => by have := hS _ hm; simp at this hb; omega), h4.old k (fun i _ hlt hm => by have := hS _ hm; omega), h5⟩
theorem SigV.old {w w' : World} {v : Value} {i : Int} {ps qs : List (List Int)} {S : List Nat} (h : SigV w v i ps qs) (k : Kp S w w') (hS : ∀ q ∈ S, w.heap.size ≤ q) : SigV w' v i ps qs := by
  obtain ⟨vp, vq, lp, lq, e, h1, h2, h3, h4⟩ := h
  exact ⟨vp, vq, lp, lq, e, h1.old k hS, h2, h3.old k hS, h4⟩
end Go.Proofs.YtillhpgdlmeajabGreatDoor

/-
  Chapter 10 as plain functions: checkpoints that are right, their bodies, what is laid down of signed ones, what is read.
-/
namespace Go.Proofs.YtillhpgdlmeajabGreatDoor
open Go.RowKit
open Go.Proofs
/-- a signed checkpoint: its size, its root, its signature's number, parts and path. -/
structure Sg where
  n : Int
  r : List Int
  i : Int
  ps : List (List Int)
  qs : List (List Int)
/-- what is signed with a seed's key. -/
def sgnC (seed : List Int) (i : Nat) (n : Int) (r : List Int) : Sg := ⟨n, r, i, sgnP seed i (digP (bodC n r)), pthP seed i 4⟩
theorem letC_len : letC.length = 16 := rfl
theorem letC_bs : Bs letC := by
  intro b hb
  simp only [letC, List.mem_cons, List.not_mem_nil, or_false] at hb
  omega
theorem bodC_yes {n : Int} {r : List Int} (h : rgtC n r = true) : bodC n r = letC ++ (be4 n ++ r) := by unfold bodC; rw [if_pos h]
theorem bodC_no {n : Int} {r : List Int} (h : rgtC n r = false) : bodC n r = [] := by unfold bodC; rw [h]; rfl
theorem bodC_len {n : Int} {r : List Int} (h : rgtC n r = true) : (bodC n r).length = 52 := by
  rw [bodC_yes h]
  have := ((rgtC_iff n r).1 h).2
  simp only [List.length_append, letC_len, be4_len, this]
theorem bodC_le (n : Int) (r : List Int) : (bodC n r).length ≤ 52 := by
  cases h : rgtC n r with
  | true => rw [bodC_len h]; omega
  | false => rw [bodC_no h]; simp
theorem bodC_bs (n : Int) (r : List Int) (h : Bs r) : Bs (bodC n r) := by
  cases h' : rgtC n r with
  | true => rw [bodC_yes h']; exact letC_bs.append ((be4_bs n).append h)
  | false => rw [bodC_no h']; intro b hb; cases hb
/-- the number, the root and the signature's bytes, as a reader gives them. -/
def g1 (s : Bool × List Int) : List Int × Bool × List Int := tk s.1 s.2 4
def g2 (s : Bool × List Int) : List Int × Bool × List Int := tk (g1 s).2.1 (g1 s).2.2 32
def g3 (s : Bool × List Int) : List Int × Bool × List Int := tk (g2 s).2.1 (g2 s).2.2 2180
end Go.Proofs.YtillhpgdlmeajabGreatDoor

/-
  Where a checkpoint's root lies, where a writer's bytes lie.
-/
namespace Go.Proofs.YtillhpgdlmeajabGreatDoor
open Go.RowKit
open Go.Proofs
theorem CkV.sl {w : World} {a : Option Addr} {m c : Nat} {n : Int} {r : List Int} (h : CkV w (.agg #[.int .i64 n, .slice a m c]) n r) : Sl w (.slice a m c) r := by
  obtain ⟨a', m', c', e, h1, _⟩ := h
  simp only [Value.agg.injEq, Array.mk.injEq, List.cons.injEq, and_true, true_and] at e
  rw [e]
  exact h1
theorem Wr.vlt {w : World} {p : Nat} {v : Value} {bs : List Int} (h : Wr w p v bs) : ∀ k, v.ownBlock = some k → k < w.heap.size := by
  intro k hk
  rcases h.2.2 with ⟨rfl, _⟩ | ⟨g, cap, cur, rfl, _, hg, _⟩
  · cases hk
  · cases hk; exact (Array.getElem?_eq_some_iff.1 hg).1
end Go.Proofs.YtillhpgdlmeajabGreatDoor

/-
  The contracts of package check's write and Body.
-/
namespace Go.Proofs.YtillhpgdlmeajabGreatDoor
open Go.RowKit
open Go.Proofs
set_option maxRecDepth 100000 in
set_option maxHeartbeats 1000000 in
theorem ckwrite_any (p : Nat) (v : Value) (bs : List Int) (vc : Value) (n : Int) (r : List Int) (w : World) (hw : Wr w p v bs) (hC : CkV w vc n r) (hk : ∀ w1, Kp (p :: v.ownBlock.toList) w w1 → CkV w1 vc n r) (hr : rgtC n r = true) (hb : bs.length ≤ 1000000) :
    Calls Tryz.prog 114 #[.pointer (some ⟨p, 0, none⟩), vc] w fun e w' => e = .returned (.tuple #[]) ∧ ∃ v', Wr w' p v' (bs ++ (be4 n ++ r)) ∧ Step p w v w' v' := by
  obtain ⟨a, m, c, rfl, -, -⟩ := hC
  obtain ⟨⟨h0, h1⟩, hl⟩ := (rgtC_iff n r).1 hr
  obtain ⟨w1, hw1⟩ : ∃ w1, w1 = w.alloc (.cells #[.int .i64 n, .slice a m c] 50) := ⟨_, rfl⟩
  have K1 : Kp [] w w1 := by rw [hw1]; exact (Kp.refl [] w).alloc _
  have G1 : w1.heap[w.heap.size]? = some (.cells #[.int .i64 n, .slice a m c] 50 (0, 0)) := by rw [hw1]; exact heap_alloc_new w _
  have HN := hide (num_any p n v bs w1 (hw.kept K1 (by simp) (by simp)) (by omega))
  have hwrap : IntKind.u32.wrap n = n := by simp [IntKind.wrap, IntKind.signed, IntKind.bits]; omega
  have HP := hide hw.lt
  have HV := hide hw.vlt
  have HK := hide hk
  have HK1 := hide K1
  have HG1 := hide G1
  have HW1 := hide hw1
  have HL := hide hl
  have HBL := hide hb
  clear hw1 K1 G1 hw hk hr hl hb
  go_enter Tryz.func114, Tryz.ntmps114
  go_wp2_with fail
  rw [← unhide HW1]
  refine (unhide HN).mono ?_
  rintro ee w2 ⟨rfl, v2, W2, S2⟩
  have hni : w.heap.size ∉ p :: v.ownBlock.toList := by
    intro hm
    simp only [List.mem_cons, Option.mem_toList] at hm
    rcases hm with e | e
    · have := unhide HP; omega
    · have := unhide HV _ e; omega
  have G2 := S2.1.heap (unhide HG1) hni
  have e1 : w2.cell? ⟨w.heap.size, 1, none⟩ = some (.slice a m c) := by rw [cell_of_row w2 w.heap.size 1 _ _ _ G2]; rfl
  have K2 : Kp (p :: v.ownBlock.toList) w w2 := ((unhide HK1).mono (by simp)).trans S2.1
  have HR := hide (raw_any p v2 _ (.slice a m c) r w2 W2 (unhide HK w2 K2).sl (by have := unhide HL; have := unhide HBL; rw [List.length_append, be_length]; omega))
  have HS2 : Hid (Step p w v w2 v2) := ⟨K2, fun k hk => (S2.2 k hk).elim .inl (fun h => .inr (Nat.le_trans (unhide HK1).size h))⟩
  clear HN W2 S2 hni G2 K2
  go_wp2_with fail
  refine (unhide HR).mono ?_
  rintro ee w3 ⟨rfl, v3, W3, S3⟩
  have HW3 := hide W3
  have HS3 := hide S3
  clear W3 S3 HR
  go_wp2_with fail
  go_end0
  refine ⟨rfl, v3, ?_, (unhide HS2).trans (unhide HS3)⟩
  have := unhide HW3
  rw [be_4, List.append_assoc] at this
  exact this
set_option maxRecDepth 100000 in
set_option maxHeartbeats 1000000 in
theorem ckbody_any (vc : Value) (n : Int) (r B : List Int) (hB : B = bodC n r) (w : World) (hC : CkV w vc n r) :
    Calls Tryz.prog 98 #[vc] w fun e w' => ∃ ao m c, e = .returned (.slice ao m c) ∧ Sl w' (.slice ao m c) B ∧ Kp [] w w' := by
  have HC := hide hC
  obtain ⟨a, m, c, rfl, -, -⟩ := hC
  obtain ⟨w1, hw1⟩ : ∃ w1, w1 = w.alloc (.cells #[.int .i64 n, .slice a m c] 50) := ⟨_, rfl⟩
  have K1 : Kp [] w w1 := by rw [hw1]; exact (Kp.refl [] w).alloc _
  have G1 : w1.heap[w.heap.size]? = some (.cells #[.int .i64 n, .slice a m c] 50 (0, 0)) := by rw [hw1]; exact heap_alloc_new w _
  obtain ⟨b, hb⟩ : ∃ b, b = rgtC n r := ⟨_, rfl⟩
  have hl1 := load_whole (T := 50) G1 Tryz.underlying50 rfl Tryz.chkSize
  have HR := hide (ckright_any _ n r b hb w1 ((unhide HC).kept K1))
  rw [hw1] at hl1
  have HK1 := hide K1
  have HG1 := hide G1
  have HW1 := hide hw1
  have HBB := hide hB
  have Hb := hide hb
  clear hw1 K1 G1 hB hb
  cases b
  · go_enter Tryz.func98, Tryz.ntmps98
    go_wp2_with fail
    rw [← unhide HW1]
    refine (unhide HR).mono ?_
    rintro ee w2 ⟨rfl, K2⟩
    have HK2 := hide ((unhide HK1).trans K2)
    clear K2 HR hl1
    go_wp2_with fail
    go_ret
    exact ⟨none, 0, 0, rfl, by rw [unhide HBB, bodC_no (unhide Hb).symm]; exact Sl.nil _, unhide HK2⟩
  · go_enter Tryz.func98, Tryz.ntmps98
    go_wp2_with fail
    rw [← unhide HW1]
    refine (unhide HR).mono ?_
    rintro ee w2 ⟨rfl, K2⟩
    have HK2 := hide ((unhide HK1).trans K2)
    have HG2 := hide (K2.heap (unhide HG1) (by simp))
    clear K2 HR hl1
    go_wp2_with fail
    refine (new_abs w2).mono ?_
    rintro ee w3 ⟨p, rfl, W3, hp3, K3⟩
    obtain ⟨ol, hol⟩ : ∃ o : Array Value, o = #[.int .u8 98, .int .u8 114, .int .u8 111, .int .u8 97, .int .u8 100, .int .u8 115, .int .u8 104, .int .u8 101, .int .u8 101, .int .u8 116, .int .u8 32, .int .u8 99, .int .u8 104, .int .u8 101, .int .u8 99, .int .u8 107] := ⟨_, rfl⟩
    obtain ⟨w4, hw4⟩ : ∃ w4, w4 = w3.alloc (.cells ol 5 (16, 17)) := ⟨_, rfl⟩
    have K4 : Kp [] w3 w4 := by rw [hw4]; exact (Kp.refl [] w3).alloc _
    have S4 : Sl w4 (.slice (some ⟨w3.heap.size, 0, none⟩) 16 16) letC := by
      rw [hw4, hol]
      exact Sl.block (cs := letC) (t := 5) (fr := (16, 17)) (heap_alloc_new w3 _) (by simp [maxLen, letC])
    have HRw := hide (raw_any p _ [] (.slice (some ⟨w3.heap.size, 0, none⟩) 16 16) letC w4 (W3.kept K4 (by simp) (by simp)) S4 (by simp [letC]))
    have HW3 : Hid (Wn w2 w4 p (.slice none 0 0) []) := Wn.kept ⟨W3, K3, hp3, fun k hk => by cases hk⟩ K4
    rw [hol] at hw4
    have HW4 := hide hw4
    have kc := Lib.run_convert_bytes_const (P := Tryz.prog) w3 29 5 #[.int .u8 98, .int .u8 114, .int .u8 111, .int .u8 97, .int .u8 100, .int .u8 115, .int .u8 104, .int .u8 101, .int .u8 101, .int .u8 116, .int .u8 32, .int .u8 99, .int .u8 104, .int .u8 101, .int .u8 99, .int .u8 107] 16 16 Tryz.underlying29 Tryz.underlying5
    simp only [List.size_toArray, List.length_cons, List.length_nil, Nat.zero_add, Nat.reduceAdd] at kc
    clear W3 K3 hp3 hol K4 S4 hw4
    go_wp2_with fail
    rw [← unhide HW4]
    refine (unhide HRw).mono ?_
    rintro ee w5 ⟨rfl, v5, W5, S5⟩
    have HW5 := hide ((unhide HW3).step W5 S5)
    rw [List.nil_append] at HW5
    have G5 := (unhide HW5).2.1.heap (unhide HG2) (by simp)
    have e0 : w5.cell? ⟨w.heap.size, 0, none⟩ = some (.int .i64 n) := by rw [cell_of_row w5 w.heap.size 0 _ _ _ G5]; rfl
    have e1 : w5.cell? ⟨w.heap.size, 1, none⟩ = some (.slice a m c) := by rw [cell_of_row w5 w.heap.size 1 _ _ _ G5]; rfl
    have C5 := ((unhide HC).kept (unhide HK2)).kept (unhide HW5).2.1
    have HWr := hide (ckwrite_any p v5 letC _ n r w5 (unhide HW5).1 C5 (fun w' k' => ((unhide HC).kept (unhide HK2)).kept ((unhide HW5).kp k')) (unhide Hb).symm (by simp [letC]))
    clear W5 S5 HRw HW4 kc C5 G5
    go_wp2_with fail
    refine (unhide HWr).mono ?_
    rintro ee w6 ⟨rfl, v6, W6, S6⟩
    have HW6 := hide ((unhide HW5).step W6 S6)
    rw [← bodC_yes (unhide Hb).symm, ← unhide HBB] at HW6
    have HD := hide (done_any p v6 _ w6 (unhide HW6).1 (by rw [unhide HBB]; have := bodC_le n r; omega))
    obtain ⟨mB, hmB⟩ : ∃ k, k = B.length := ⟨_, rfl⟩
    rw [← hmB] at HD
    clear W6 S6 HWr e0 e1 hmB
    go_wp2_with fail
    refine (unhide HD).mono ?_
    rintro ee w7 ⟨a7, c7, rfl, R7, K7⟩
    have HS7 := hide (Sl.of_owns R7)
    have HK7 := hide (((unhide HK2).trans (unhide HW6).2.1).trans K7)
    clear R7 K7 HD
    go_wp2_with fail
    go_ret
    exact ⟨a7, mB, c7, rfl, unhide HS7, unhide HK7⟩
end Go.Proofs.YtillhpgdlmeajabGreatDoor

/-
  The contract of package check's copyOf.
-/
namespace Go.Proofs.YtillhpgdlmeajabGreatDoor
open Go.RowKit
open Go.Proofs
set_option maxRecDepth 100000 in
set_option maxHeartbeats 1000000 in
theorem ckcopy_any (vc : Value) (n : Int) (r : List Int) (w : World) (hC : CkV w vc n r) (hl : r.length ≤ 1000) :
    Calls Tryz.prog 99 #[vc] w fun e w' => ∃ a m c, e = .returned (.agg #[.int .i64 n, .slice a m c]) ∧ Own w w' (.slice a m c) r ∧ Kp [] w w' := by
  obtain ⟨a, m, c, rfl, hS, -⟩ := hC
  obtain ⟨w2, hw2⟩ : ∃ w2, w2 = (w.alloc (.cells #[.int .i64 n, .slice a m c] 50)).alloc (.cells #[.int .i64 0, .slice none 0 0] 50) := ⟨_, rfl⟩
  obtain ⟨g1, hg1⟩ : ∃ g, g = w.heap.size := ⟨_, rfl⟩
  obtain ⟨g2, hg2⟩ : ∃ g, g = w.heap.size + 1 := ⟨_, rfl⟩
  have K2 : Kp [] w w2 := by rw [hw2]; exact ((Kp.refl [] w).alloc _).alloc _
  have G1 : w2.heap[g1]? = some (.cells #[.int .i64 n, .slice a m c] 50 (0, 0)) := by rw [hw2, hg1]; exact heap_alloc2_old w _ _
  have G2 : w2.heap[g2]? = some (.cells #[.int .i64 0, .slice none 0 0] 50 (0, 0)) := by rw [hw2, hg2]; exact heap_alloc2_new w _ _
  have c0 : w2.cell? ⟨g1, 0, none⟩ = some (.int .i64 n) := by rw [cell_of_row w2 g1 0 _ _ _ G1]; rfl
  have c1 : w2.cell? ⟨g1, 1, none⟩ = some (.slice a m c) := by rw [cell_of_row w2 g1 1 _ _ _ G1]; rfl
  have hs2 : Sl w2.drew (.slice a m c) r := (hS.kept K2 (by simp)).kept (kp_drew w2) (by simp)
  have hg2lt : g2 < w2.heap.size := lt_of_block G2
  have hR0 : Row w2.drew w2.heap.size (.slice none 0 0) [] := ⟨rfl, .inl ⟨rfl, rfl⟩⟩
  have HK2 := hide K2
  have HG2 := hide G2
  have HW2 := hide hw2
  have H1 := hide hg1
  have H2 := hide hg2
  have HL := hide hl
  clear hS K2 G1 G2 hw2 hg1 hg2 hl
  go_enter Tryz.func99, Tryz.ntmps99
  go_wp2_with fail
  rw [← unhide HW2, ← unhide H2, ← unhide H1]
  go_region_law (first
    | (refine step_append_row (by rfl) (.const (.slice none 0 0)) (.tmp 6) (by rfl) w2.heap.size (.slice none 0 0) [] (by rfl) hR0 (.slice a m c) r (by rfl) hs2 (by have := unhide HL; simp; omega) (Nat.le_refl _) ?_; intro a3 m3 c3 w3 R3 S3; have K3 : Kp [] w2 w3 := (kp_drew w2).trans (S3.1.mono (by simp [Value.ownBlock])); have G3 := K3.heap (unhide HG2) (by simp); have d0 : w3.cell? ⟨g1, 0, none⟩ = some (.int .i64 n) := K3.cell c0 (by simp); have d1 : w3.cell? ⟨g1, 1, none⟩ = some (.slice a m c) := K3.cell c1 (by simp); have G4 := heap_setCell_same w3 g2 0 _ _ (.int .i64 n) G3; have f0 : w3.cell? ⟨g2, 0, none⟩ = some (.int .i64 0) := (by rw [cell_of_row w3 g2 0 _ _ _ G3]; rfl); have z0 : w3.frozen? ⟨g2, 0, none⟩ = false := frozen_of_row w3 g2 0 _ _ G3; have f1 : (w3.setCell ⟨g2, 0, none⟩ (.int .i64 n)).cell? ⟨g2, 1, none⟩ = some (.slice none 0 0) := (by rw [cell_of_row _ g2 1 _ _ _ G4]; rfl); have z1 : (w3.setCell ⟨g2, 0, none⟩ (.int .i64 n)).frozen? ⟨g2, 1, none⟩ = false := frozen_of_row _ g2 1 _ _ G4))
  all_goals
   rw [List.nil_append] at R3
   have hown := R3.own
   have G5 := heap_setCell_same (w3.setCell ⟨g2, 0, none⟩ (.int .i64 n)) g2 1 _ _ (.slice a3 m3 c3) G4
   have G6 : ((w3.setCell ⟨g2, 0, none⟩ (.int .i64 n)).setCell ⟨g2, 1, none⟩ (.slice a3 m3 c3)).heap[g2]? = some (.cells #[.int .i64 n, .slice a3 m3 c3] 50 (0, 0)) := by simpa using G5
   have K4 : Kp [g2] w3 ((w3.setCell ⟨g2, 0, none⟩ (.int .i64 n)).setCell ⟨g2, 1, none⟩ (.slice a3 m3 c3)) := (kp_fcell w3 g2 0 _).trans (kp_fcell _ g2 1 _)
   clear f0 z0 f1 z1 G5
   go_wp2_with fail
   refine bodyPost_ret (results_flat1 rfl _ rfl G6 Tryz.underlying50 rfl Tryz.chkSize) rfl ?_
   refine ⟨a3, m3, c3, rfl, ⟨R3.sl.kept K4 (fun i hi => ?_), fun k hk => ?_⟩, ((unhide HK2).trans K3).then K4 (fun i hi => .inr ?_)⟩
   · have := hown i hi; simp; omega
   · have := hown k hk; have := (unhide HK2).size; omega
   · simp at hi; have := unhide H2; omega
end Go.Proofs.YtillhpgdlmeajabGreatDoor

/-
  The reference's owners: their contracts New, Public, Sign.
-/
namespace Go.Proofs.YtillhpgdlmeajabGreatDoor
open Go.RowKit
open Go.Proofs
/-- a row of the call's own of slices of slices. -/
def RowL (w : World) (base : Nat) (v : Value) (xs : List Value) : Prop := w.ownsRow base 31 1 v xs.length xs
theorem RowL.shape {w : World} {base : Nat} {v : Value} {xs : List Value} (h : RowL w base v xs) : ∃ ao c, v = .slice ao xs.length c := owns_shape h
theorem RowL.own {w : World} {base : Nat} {v : Value} {xs : List Value} (h : RowL w base v xs) : ∀ k, v.ownBlock = some k → base ≤ k ∧ k < w.heap.size := by
  intro k hk
  rcases h.2 with ⟨rfl, _⟩ | ⟨g, cap, cur, rfl, hb, hg, _⟩
  · cases hk
  · cases hk; exact ⟨hb, (Array.getElem?_eq_some_iff.1 hg).1⟩
theorem RowL.kept {w w' : World} {base : Nat} {v : Value} {xs : List Value} {S : List Nat} (h : RowL w base v xs) (k : Kp S w w') (hv : ∀ i, v.ownBlock = some i → i ∉ S) : RowL w' base v xs := k.owns h hv
theorem RowL.at {w : World} {base : Nat} {v : Value} {xs : List Value} (h : RowL w base v xs) (h0 : 0 < xs.length) : ∃ g c, v = .slice (some ⟨g, 0, none⟩) xs.length c ∧ ∀ i (hi : i < xs.length), w.cell? ⟨g, i, none⟩ = some xs[i] := by
  rcases h.2 with ⟨h', h1⟩ | ⟨g, cap, cur, h', hb, hg, _⟩
  · omega
  · subst h'
    have h1 : w.ownsRow base 31 1 (.slice (some ⟨g, 0, none⟩) xs.length cap) xs.length xs := h
    exact ⟨g, cap, rfl, fun i hi => by rw [h1.cellAt i (by omega)]; simp [List.getElem?_eq_getElem hi]⟩
/-- a level of nodes that lies apart from the block g and from pv. -/
def Lo (g : Nat) (pv : Value) (w : World) (x : Value) (ls : List (List Int)) : Prop :=
  ∃ ao n c l, x = .slice ao n c ∧ Lists w x l ∧ l.map (·.2) = ls ∧ ∀ q, (x.ownBlock = some q ∨ ∃ y ∈ l, y.1.ownBlock = some q) → q < w.heap.size ∧ g < q ∧ pv.ownBlock ≠ some q
theorem Lo.kept {g : Nat} {pv x : Value} {w w' : World} {ls : List (List Int)} (h : Lo g pv w x ls) (k : Kp [] w w') : Lo g pv w' x ls := by
  obtain ⟨ao, n, c, l, e, h1, h2, h3⟩ := h
  exact ⟨ao, n, c, l, e, h1.kept k, h2, fun q hq => ⟨Nat.lt_of_lt_of_le (h3 q hq).1 k.size, (h3 q hq).2⟩⟩
theorem Lo.step {g : Nat} {pv pv' x : Value} {w w' : World} {ls : List (List Int)} (h : Lo g pv w x ls) (s : RStep w pv w' pv') : Lo g pv' w' x ls := by
  obtain ⟨ao, n, c, l, e, h1, h2, h3⟩ := h
  refine ⟨ao, n, c, l, e, h1.off s.1 (fun q hq hm => (h3 q (.inl hq)).2.2 (by simpa using hm)) (fun y hy q hq hm => (h3 q (.inr ⟨y, hy, hq⟩)).2.2 (by simpa using hm)), h2, fun q hq => ⟨Nat.lt_of_lt_of_le (h3 q hq).1 s.1.size, (h3 q hq).2.1, fun e' => ?_⟩⟩
  rcases s.2 q e' with h5 | h5
  · exact (h3 q hq).2.2 h5
  · have := (h3 q hq).1; omega
theorem Lo.store {g : Nat} {pv x : Value} {w w' : World} {ls : List (List Int)} (h : Lo g pv w x ls) (k : Kp [g] w w') : Lo g pv w' x ls := by
  obtain ⟨ao, n, c, l, e, h1, h2, h3⟩ := h
  exact ⟨ao, n, c, l, e, h1.off k (fun q hq hm => by have := (h3 q (.inl hq)).2.1; simp at hm; omega) (fun y hy q hq hm => by have := (h3 q (.inr ⟨y, hy, hq⟩)).2.1; simp at hm; omega), h2, fun q hq => ⟨Nat.lt_of_lt_of_le (h3 q hq).1 k.size, (h3 q hq).2⟩⟩
theorem Lo.of_acc {g : Nat} {pv : Value} {w1 w2 : World} {ao : Option Addr} {n c : Nat} {ls : List (List Int)} (h : Acc w1 ls (.slice ao n c) w2) (hl : ls.length ≤ 1000) (hg : g < w1.heap.size) (hp : ∀ q, pv.ownBlock = some q → q < w1.heap.size) : Lo g pv w2 (.slice ao n c) ls := by
  obtain ⟨l, h1, h2, h3⟩ := h
  refine ⟨ao, n, c, l, rfl, h1.lists (by rw [← List.length_map (f := (·.2)), h2]; exact hl), h2, fun q hq => ?_⟩
  have hq2 : w1.heap.size ≤ q ∧ q < w2.heap.size := by
    rcases hq with hq | ⟨y, hy, hq⟩
    · exact ⟨h1.1.own q hq, h1.1.lt hq⟩
    · exact ⟨(h1.2 y hy).1.own q hq, (h1.2 y hy).1.lt hq⟩
  exact ⟨hq2.2, by omega, fun e => by have := hp q e; omega⟩
theorem Lo.lists {g : Nat} {pv x : Value} {w : World} {ls : List (List Int)} (h : Lo g pv w x ls) : ∃ l, Lists w x l ∧ l.map (·.2) = ls := by
  obtain ⟨_, _, _, l, _, h1, h2, _⟩ := h
  exact ⟨l, h1, h2⟩
end Go.Proofs.YtillhpgdlmeajabGreatDoor

/-
  Checkpoints (api.Checkpoint) and signed ones (api.Signed) as values and in memory.
-/
namespace Go.Proofs.YtillhpgdlmeajabGreatDoor
open Go.RowKit
open Go.Proofs
theorem Tryz.sgdSize : (Tryz.prog.info? 54).map (·.size) = some 5 := by kernel_rfl
/-- v is the signed checkpoint s. -/
def SgV (w : World) (v : Value) (s : Sg) : Prop := ∃ a m c vp vq, v = .agg #[.int .i64 s.n, .slice a m c, .int .i64 s.i, vp, vq] ∧ (Sl w (.slice a m c) s.r ∧ Bs s.r) ∧ SigV w (.agg #[.int .i64 s.i, vp, vq]) s.i s.ps s.qs
theorem SgV.kept {w w' : World} {v : Value} {s : Sg} (h : SgV w v s) (k : Kp [] w w') : SgV w' v s := by
  obtain ⟨a, m, c, vp, vq, e, h1, h2⟩ := h
  exact ⟨a, m, c, vp, vq, e, ⟨h1.1.kept k (by simp), h1.2⟩, h2.kept k⟩
theorem SgV.shape {w : World} {v : Value} {s : Sg} (h : SgV w v s) : ∃ a m c ap np cp aq nq cq, v = .agg #[.int .i64 s.n, .slice a m c, .int .i64 s.i, .slice ap np cp, .slice aq nq cq] ∧ (Sl w (.slice a m c) s.r ∧ Bs s.r) ∧ SigV w (.agg #[.int .i64 s.i, .slice ap np cp, .slice aq nq cq]) s.i s.ps s.qs := by
  obtain ⟨a, m, c, vp, vq, e, h1, h2⟩ := h
  obtain ⟨ap, np, cp, aq, nq, cq, lp, lq, e2, _⟩ := h2.shape
  simp only [Value.agg.injEq, Array.mk.injEq, List.cons.injEq, and_true, true_and] at e2
  obtain ⟨rfl, rfl⟩ := e2
  exact ⟨a, m, c, ap, np, cp, aq, nq, cq, e, h1, h2⟩
def sgd0 : Value := .agg #[.int .i64 0, .slice none 0 0, .int .i64 0, .slice none 0 0, .slice none 0 0]
theorem SgV.bs {w : World} {v : Value} {s : Sg} (h : SgV w v s) : Bs s.r ∧ (∀ x ∈ s.ps, Bs x) ∧ ∀ x ∈ s.qs, Bs x := by
  obtain ⟨a, m, c, vp, vq, e, h1, h2⟩ := h
  exact ⟨h1.2, h2.bs⟩
/-- a signed checkpoint that stays so, whatever becomes of the blocks below b. -/
def SgA (b : Nat) (w : World) (v : Value) (s : Sg) : Prop := ∀ (S : List Nat) (w2 : World), (∀ q ∈ S, q < b) → Kp S w w2 → SgV w2 v s
theorem SgA.v {b : Nat} {w : World} {v : Value} {s : Sg} (h : SgA b w v s) : SgV w v s := h [] w (by simp) (Kp.refl _ _)
theorem SgA.kept {b : Nat} {w w' : World} {v : Value} {s : Sg} {S : List Nat} (h : SgA b w v s) (hS : ∀ q ∈ S, q < b) (k : Kp S w w') : SgA b w' v s := fun S2 w2 h2 k2 =>
  h (S ++ S2) w2 (fun q hq => (List.mem_append.1 hq).elim (hS q) (h2 q)) ((k.mono (by simp; intro x hx; exact .inl hx)).trans (k2.mono (by simp; intro x hx; exact .inr hx)))
theorem SgA.low {b c : Nat} {w : World} {v : Value} {s : Sg} (h : SgA b w v s) (hc : c ≤ b) : SgA c w v s := fun S w2 h2 k2 => h S w2 (fun q hq => Nat.lt_of_lt_of_le (h2 q hq) hc) k2
end Go.Proofs.YtillhpgdlmeajabGreatDoor

/-
  The contract of package check's Sign.
-/
namespace Go.Proofs.YtillhpgdlmeajabGreatDoor
open Go.RowKit
open Go.Proofs
/-- a checkpoint whose root lies from B on. -/
def CkO (B : Nat) (n : Int) (r : List Int) : Tell := fun v w => ∃ a m c, v = .agg #[.int .i64 n, .slice a m c] ∧ Sl w (.slice a m c) r ∧ ∀ k, (Value.slice a m c).ownBlock = some k → B ≤ k
theorem stable_cko (B : Nat) (n : Int) (r : List Int) : Tell.stable (CkO B n r) := fun _ _ _ k ⟨a, m, c, e, h1, h2⟩ => ⟨a, m, c, e, h1.kept k (by simp), h2⟩
def SgO (B : Nat) (n : Int) (r : List Int) (x y z : Value) : Tell := fun v w => ∃ a m c, v = .agg #[.int .i64 n, .slice a m c, x, y, z] ∧ Sl w (.slice a m c) r ∧ ∀ k, (Value.slice a m c).ownBlock = some k → B ≤ k
theorem stable_sgo (B : Nat) (n : Int) (r : List Int) (x y z : Value) : Tell.stable (SgO B n r x y z) := fun _ _ _ k ⟨a, m, c, e, h1, h2⟩ => ⟨a, m, c, e, h1.kept k (by simp), h2⟩
theorem grown_bsgo {o : Oper} {a : Act} {w : World} {B : Nat} {n : Int} {r : List Int} {i : Int} {ap aq : Option Addr} {np cp nq cq : Nat} (x0 x1 : Operand) (ho : o.op = .build 54 #[(0, x0), (1, x1)]) (h0 : CkO B n r (a.eval x0) w) (h1 : a.eval x1 = .agg #[.int .i64 i, .slice ap np cp, .slice aq nq cq]) :
    grown Tryz.prog w (SgO B n r (.int .i64 i) (.slice ap np cp) (.slice aq nq cq)) ((execOp a.eval o).run Tryz.prog w) := by
  obtain ⟨ar, mr, cr, e, h2, h3⟩ := h0
  refine grown_run (v := .agg #[.int .i64 n, .slice ar mr cr, .int .i64 i, .slice ap np cp, .slice aq nq cq]) ?_ (Kp.refl _ _) ⟨ar, mr, cr, rfl, h2, h3⟩
  obtain ⟨ρ, hρ, _⟩ := eval_is a
  rw [hρ] at e h1 ⊢
  unfold execOp
  simp only [ho]
  simp [go_sem, e, h1]
set_option maxRecDepth 100000 in
set_option maxHeartbeats 4000000 in
theorem cksign_okA (vb : Value) (bs : List Int) (i : Nat) (vc : Value) (n : Int) (r : List Int) (w : World) (hS : Sl w vb bs) (hB : Bs bs) (hl : bs.length = 32) (hi : i < 16) (hC : CkV w vc n r) (hr : rgtC n r = true) (hG : Gl w) :
    Calls Tryz.prog 68 #[vb, .int .i64 i, vc] w fun e w' => ∃ v, e = .returned (.tuple #[v, .int .i64 0]) ∧ SgA w.heap.size w' v (sgnC bs i n r) ∧ Kp [] w w' := by
  have HB := hide hB
  have HLB := hide hl
  have HI := hide hi
  have HG := hide hG
  clear hB hl hi hG
  obtain ⟨ar, mr, cr, rfl, hSr, hBr⟩ := id hC
  have HS := hide hS
  obtain ⟨ab, cb, hvb, -⟩ := hS
  obtain ⟨nb, hnb⟩ : ∃ k, k = bs.length := ⟨_, rfl⟩
  rw [← hnb] at hvb
  subst hvb
  obtain ⟨w2, hw2⟩ : ∃ w2, w2 = (w.alloc (.cells #[.int .i64 n, .slice ar mr cr] 50)).alloc (.cells #[.int .i64 0, .slice none 0 0, .int .i64 0, .slice none 0 0, .slice none 0 0] 54) := ⟨_, rfl⟩
  obtain ⟨g1, hg1⟩ : ∃ g, g = w.heap.size := ⟨_, rfl⟩
  obtain ⟨g2, hg2⟩ : ∃ g, g = w.heap.size + 1 := ⟨_, rfl⟩
  have K2 : Kp [] w w2 := by rw [hw2]; exact ((Kp.refl [] w).alloc _).alloc _
  have G1 : w2.heap[g1]? = some (.cells #[.int .i64 n, .slice ar mr cr] 50 (0, 0)) := by rw [hw2, hg1]; exact heap_alloc2_old w _ _
  have G2 : w2.heap[g2]? = some (.cells #[.int .i64 0, .slice none 0 0, .int .i64 0, .slice none 0 0, .slice none 0 0] 54 (0, 0)) := by rw [hw2, hg2]; exact heap_alloc2_new w _ _
  have c0 : ((w.alloc (.cells #[.int .i64 n, .slice ar mr cr] 50)).alloc (.cells #[.int .i64 0, .slice none 0 0, .int .i64 0, .slice none 0 0, .slice none 0 0] 54)).cell? ⟨w.heap.size, 0, none⟩ = some (.int .i64 n) := by rw [← hw2, ← hg1, cell_of_row w2 g1 0 _ _ _ G1]; rfl
  have c1 : ((w.alloc (.cells #[.int .i64 n, .slice ar mr cr] 50)).alloc (.cells #[.int .i64 0, .slice none 0 0, .int .i64 0, .slice none 0 0, .slice none 0 0] 54)).cell? ⟨w.heap.size, 1, none⟩ = some (.slice ar mr cr) := by rw [← hw2, ← hg1, cell_of_row w2 g1 1 _ _ _ G1]; rfl
  have HCK0 : Hid (∀ w', Kp [] w w' → CkV w' (.agg #[.int .i64 n, .slice ar mr cr]) n r) := fun w' k' => hC.kept k'
  have HK2 := hide K2
  have HG1 := hide G1
  have HG2 := hide G2
  have HW2 := hide hw2
  have H1 := hide hg1
  have H2 := hide hg2
  have HBr := hide hBr
  have HR := hide (ckright_any _ n r true hr.symm w2 (hC.kept K2))
  have Hr := hide hr
  clear hSr hBr hC K2 G1 G2 hw2 hg1 hg2 hr hnb
  go_enter Tryz.func68, Tryz.ntmps68
  go_wp2_with fail
  rw [← unhide HW2, ← unhide H2, ← unhide H1]
  refine (unhide HR).mono ?_
  rintro ee w3 ⟨rfl, K3⟩
  have HK3 := hide ((unhide HK2).trans K3)
  have HG13 := hide (K3.heap (unhide HG1) (by simp))
  have G23 := K3.heap (unhide HG2) (by simp)
  clear HR c0 c1 HW2
  have d0 : w3.cell? ⟨g1, 0, none⟩ = some (.int .i64 n) := by rw [cell_of_row w3 g1 0 _ _ _ (unhide HG13)]; rfl
  have d1 : w3.cell? ⟨g1, 1, none⟩ = some (.slice ar mr cr) := by rw [cell_of_row w3 g1 1 _ _ _ (unhide HG13)]; rfl
  obtain ⟨B, hBo⟩ : ∃ B, B = bodC n r := ⟨_, rfl⟩
  have HBO := hide (ckbody_any _ n r B hBo w3 (unhide HCK0 w3 (unhide HK3)))
  have HBB := hide hBo
  have HG23 := hide G23
  clear K3 HK2 G23 hBo
  go_wp2_with fail
  refine (unhide HBO).mono ?_
  rintro ee w4 ⟨a4, m4, c4, rfl, S4, K4⟩
  have HK4 := hide ((unhide HK3).trans K4)
  have HG24 := hide (K4.heap (unhide HG23) (by simp))
  have HG14 := hide (K4.heap (unhide HG13) (by simp))
  have HSg := hide (ssign_anyA (.slice ab nb cb) bs i (.slice a4 m4 c4) B (digP B) rfl w4 ((unhide HS).kept (unhide HK4) (by simp)) (unhide HB) (unhide HLB) (unhide HI) S4 (by rw [unhide HBB]; exact bodC_bs n r (unhide HBr)) (by rw [unhide HBB]; have := bodC_le n r; omega) ((unhide HG).kept (unhide HK4) (by simp)))
  have hlt4 : g2 < w4.heap.size := lt_of_block (unhide HG24)
  clear HBO d0 d1 S4 K4 HG23 HG13 HK3
  go_wp2_with fail
  refine (unhide HSg).mono ?_
  rintro ee w5 ⟨v5, rfl, V5, K5⟩
  obtain ⟨ap, np, cp, aq, nq, cq, lp, lq, rfl, -⟩ := V5.v.shape
  have HV5 := hide V5
  have HK5 := hide ((unhide HK4).trans K5)
  have HKS := hide K5
  have HG25 := hide (K5.heap (unhide HG24) (by simp))
  have HG15 := hide (K5.heap (unhide HG14) (by simp))
  have Ga := heap_alloc_new w5 (.cells #[.int .i64 0, .slice none 0 0, .slice none 0 0] 52)
  have HKa : Hid (Kp [] w5 (w5.alloc (.cells #[.int .i64 0, .slice none 0 0, .slice none 0 0] 52))) := (Kp.refl [] w5).alloc _
  clear HSg K5 V5 HG24 HG14
  go_wp2_with (refine wpList_store_flat rfl 52 (.tmp 8) (.tmp 20) rfl w5.heap.size 0 rfl _ _ [.int .i64 i, .slice ap np cp, .slice aq nq cq] Ga rfl (by simp) Tryz.sigSize (by simp [Value.oneCell']) #[.int .i64 i, .slice ap np cp, .slice aq nq cq] rfl ?_; intro w6 G6 K6; refine Hid.out ?_)
  obtain ⟨g8, hg8⟩ : ∃ g, g = w5.heap.size := ⟨_, rfl⟩
  have K56 : Kp [] w5 w6 := (unhide HKa).then K6 (fun i hi => .inr (by simp at hi; omega))
  rw [← hg8] at G6 ⊢
  have hG1 := K56.heap (unhide HG15) (by simp)
  have HG26 := hide (K56.heap (unhide HG25) (by simp))
  have HV6 := hide ((unhide HV5).kept (S := []) (by simp) K56)
  have HK6 := hide ((unhide HK5).trans K56)
  have HD : Hid (∀ w', Kp [] w6.drew w' → Kp [] w6 w') := fun w' k' => (kp_drew w6).trans k'
  have HS1 : Hid (∀ w', Kp [] w6.drew w' → w'.heap[g1]? = some (.cells #[.int .i64 n, .slice ar mr cr] 50 (0, 0))) := fun w' k' => (unhide HD w' k').heap hG1 (by simp)
  have HS8 : Hid (∀ w', Kp [] w6.drew w' → w'.heap[g8]? = some (.cells #[.int .i64 i, .slice ap np cp, .slice aq nq cq] 52 (0, 0))) := fun w' k' => (unhide HD w' k').heap G6 (by simp)
  have HCK : Hid (∀ w', Kp [] w6.drew w' → CkV w' (.agg #[.int .i64 n, .slice ar mr cr]) n r) := fun w' k' => unhide HCK0 w' ((unhide HK6).trans (unhide HD w' k'))
  have HRL : Hid (r.length ≤ 1000) := hide (by have := ((rgtC_iff n r).1 (unhide Hr)).2; omega)
  have hb6 : w4.heap.size ≤ w6.heap.size := Nat.le_trans (unhide HKS).size K56.size
  clear Ga HKa G6 K6 K56 hg8 hG1 HV5 HK5 HG15 HG25
  refine hide ?_
  go_wp2_with fail
  refine region_grow_tail 4 Tryz.mixed [Is (.agg #[.int .i64 n, .slice ar mr cr]), CkO w6.drew.heap.size n r, Is (.agg #[.int .i64 i, .slice ap np cp, .slice aq nq cq]), SgO w6.drew.heap.size n r (.int .i64 i) (.slice ap np cp) (.slice aq nq cq)] [[(5, none)], [(26, some 0)], [(8, none)], [(27, some 1), (28, some 2)]] (by kernel_rfl) ?_ ?_ ?_
  all_goals try simp only [List.take_succ_cons, List.take_zero, List.drop_succ_cons, List.drop_zero]
  · simp only [List.mem_cons, List.not_mem_nil, or_false]
    intro R hR
    rcases hR with rfl | rfl | rfl | rfl <;> first | exact stable_is _ | exact stable_cko _ _ _ | exact stable_sgo _ _ _ _ _ _
  · refine steps_cons (fun a w hk hn => ?_) ?_
    · have h5 : a.eval (.tmp 5) = .pointer (some ⟨g1, 0, none⟩) := hn.1
      clear hn
      refine wants_plain rfl ?_
      exact grown_loadf 50 (.tmp 5) rfl g1 0 h5 _ _ _ _ (unhide HS1 w hk) [.int .i64 n, .slice ar mr cr] (flat_in rfl) Tryz.underlying50 rfl Tryz.chkSize rfl
    refine steps_cons (fun a w hk hn => ?_) ?_
    · have h26 : a.eval (.tmp 26) = .agg #[.int .i64 n, .slice ar mr cr] := hn.1
      clear hn
      refine wants_plain rfl ?_
      refine grown_call (f := 99) rfl Tryz.func99 (by kernel_rfl) (by kernel_rfl) ?_
      simp only [List.map_toArray, List.map_cons, List.map_nil, h26]
      refine (ckcopy_any _ n r w (unhide HCK w hk) (unhide HRL)).mono ?_
      rintro e w' ⟨a', m', c', rfl, O, K⟩
      exact ⟨_, rfl, K, ⟨a', m', c', rfl, O.1, fun k hk' => Nat.le_trans hk.size (O.2 k hk')⟩⟩
    refine steps_cons (fun a w hk hn => ?_) ?_
    · have h8 : a.eval (.tmp 8) = .pointer (some ⟨g8, 0, none⟩) := hn.1
      clear hn
      refine wants_plain rfl ?_
      exact grown_loadf 52 (.tmp 8) rfl g8 0 h8 _ _ _ _ (unhide HS8 w hk) [.int .i64 i, .slice ap np cp, .slice aq nq cq] (flat_in rfl) Tryz.underlying52 rfl Tryz.sigSize rfl
    refine steps_cons (fun a w hk hn => ?_) ?_
    · have h27 : (CkO w6.drew.heap.size n r) (a.eval (.tmp 27)) w := hn.1
      have h28 : a.eval (.tmp 28) = .agg #[.int .i64 i, .slice ap np cp, .slice aq nq cq] := hn.2.1
      clear hn
      refine wants_plain rfl ?_
      exact grown_bsgo (.tmp 27) (.tmp 28) rfl h27 h28
    exact trivial
  intro W1 hkW1
  rintro _ rfl
  intro v27 h27
  rintro _ rfl
  intro v29 h29
  refine fin_nil ?_
  simp only [Act.put, List.set_cons_zero, List.set_cons_succ, List.setIfInBounds_toArray]
  obtain ⟨a7, m7, c7, rfl, S7, O7⟩ := h29
  have K67 := unhide HD W1 hkW1
  have G27 := K67.heap (unhide HG26) (by simp)
  have hsz7 : w6.drew.heap.size = w6.heap.size := rfl
  clear h27
  go_wp2_with (refine wpList_store_flat rfl 54 (.tmp 6) (.tmp 29) rfl g2 0 rfl _ _ [.int .i64 n, .slice a7 m7 c7, .int .i64 i, .slice ap np cp, .slice aq nq cq] G27 rfl (by simp) Tryz.sgdSize (by simp [Value.oneCell']) #[.int .i64 n, .slice a7 m7 c7, .int .i64 i, .slice ap np cp, .slice aq nq cq] rfl ?_; intro w8 G8 K8)
  refine bodyPost_ret (results_flat2 rfl _ rfl G8 Tryz.underlying54 rfl Tryz.sgdSize) rfl ?_
  have hs48 : w.heap.size ≤ w4.heap.size := (unhide HK4).size
  refine ⟨_, rfl, fun SS w9 hS9 k9 => ⟨a7, m7, c7, .slice ap np cp, .slice aq nq cq, rfl, ⟨(S7.kept K8 (fun k hk => ?_)).kept k9 (fun k hk hm => ?_), unhide HBr⟩, ?_⟩, ((unhide HK6).trans K67).then K8 (fun i hi => .inr (by simp at hi; have := unhide H2; omega))⟩
  · have := O7 k hk
    simp
    omega
  · have := O7 k hk
    have := hS9 k hm
    omega
  · have := (unhide HV6).kept (S := []) (by simp) K67
    have h8 := this ([g2] ++ SS) w9 (fun q hq => by
      rcases List.mem_append.1 hq with hq | hq
      · simp at hq; omega
      · have := hS9 q hq; omega) ((K8.mono (by simp)).trans (k9.mono (by simp; intro x hx; exact .inr hx)))
    show SigV w9 _ (i : Int) (sgnP bs i (digP (bodC n r))) (pthP bs i 4)
    rw [← unhide HBB]
    exact h8
end Go.Proofs.YtillhpgdlmeajabGreatDoor
