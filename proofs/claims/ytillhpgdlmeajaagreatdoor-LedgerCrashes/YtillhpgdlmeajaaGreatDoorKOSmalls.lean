/-
  Lists of one and of two; rows of slices of a call's own, how they grow.
-/
import Derived.Test.YtillhpgdlmeajaaGreatDoorKHSmalls
import Derived.Test.YtillhpgdlmeajaaGreatDoorKHTags
import Derived.Laws.EntriesVeiled
import Derived.Shelf.Abstract
namespace Go.Proofs.YtillhpgdlmeajaaGreatDoor
open Go.RowKit
open Go.Proofs

theorem lists1 {w : World} {v : Value} {bs : List Int} (h : Sl w v bs) (hB : Bs bs) : Lists (w.alloc (.cells #[v] 22)) (.slice (some ⟨w.heap.size, 0, none⟩) 1 1) [(v, bs)] :=
  lists_of_block (l := [(v, bs)]) (t := 22) (fr := (0, 0)) (heap_alloc_new w _) (by simp) (fun x hx => by
    obtain rfl : x = (v, bs) := by simpa using hx
    exact ⟨h.kept ((Kp.refl [] w).alloc _) (by simp), hB⟩)
theorem cat1 (v : Value) (bs : List Int) : cat [(v, bs)] = bs := by simp [cat]
theorem lists2 {w : World} {v u : Value} {bs cs : List Int} (h : Sl w v bs) (hB : Bs bs) (k : Sl w u cs) (hC : Bs cs) : Lists (w.alloc (.cells #[v, u] 22)) (.slice (some ⟨w.heap.size, 0, none⟩) 2 2) [(v, bs), (u, cs)] :=
  lists_of_block (l := [(v, bs), (u, cs)]) (t := 22) (fr := (0, 0)) (heap_alloc_new w _) (by simp) (fun x hx => by
    rcases (by simpa using hx : x = (v, bs) ∨ x = (u, cs)) with rfl | rfl
    · exact ⟨h.kept ((Kp.refl [] w).alloc _) (by simp), hB⟩
    · exact ⟨k.kept ((Kp.refl [] w).alloc _) (by simp), hC⟩)
theorem cat2 (v u : Value) (bs cs : List Int) : cat [(v, bs), (u, cs)] = bs ++ cs := by simp [cat]
theorem row_new {w w0 w' : World} {v : Value} {bs : List Int} (h : Row w' w0.heap.size v bs) (k : Kp [] w w0) : Row w' w.heap.size v bs :=
  owns_rebase h (fun i hi => Nat.le_trans k.size (Row.own h i hi))

theorem Row.lt {w : World} {base k : Nat} {v : Value} {bs : List Int} (h : Row w base v bs) (hk : v.ownBlock = some k) : k < w.heap.size := by
  rcases h.2 with ⟨rfl, _⟩ | ⟨g, cap, cur, rfl, hb, hg, _⟩
  · cases hk
  · cases hk; exact (Array.getElem?_eq_some_iff.1 hg).1
theorem RowV.lt {w : World} {base k : Nat} {v : Value} {xs : List Value} (h : RowV w base v xs) (hk : v.ownBlock = some k) : k < w.heap.size := by
  rcases h.2 with ⟨rfl, _⟩ | ⟨g, cap, cur, rfl, hb, hg, _⟩
  · cases hk
  · cases hk; exact (Array.getElem?_eq_some_iff.1 hg).1

/-- v is a row of slices, all of the call's own, each apart from it. -/
def Parts (w : World) (base : Nat) (v : Value) (l : List (Value × List Int)) : Prop :=
  RowV w base v (l.map (·.1)) ∧ ∀ x ∈ l, Row w base x.1 x.2 ∧ Bs x.2 ∧ ∀ k, x.1.ownBlock = some k → v.ownBlock ≠ some k
theorem Parts.kept {w w' : World} {base : Nat} {v : Value} {l : List (Value × List Int)} (h : Parts w base v l) (k : Kp [] w w') : Parts w' base v l :=
  ⟨h.1.kept k (by simp), fun x hx => ⟨(h.2 x hx).1.kept k (by simp), (h.2 x hx).2⟩⟩
theorem Parts.lists {w : World} {base : Nat} {v : Value} {l : List (Value × List Int)} (h : Parts w base v l) (hl : l.length ≤ 1000) : Lists w v l :=
  lists_of_rowv h.1 hl (fun x hx => ⟨(h.2 x hx).1.sl, (h.2 x hx).2.1⟩)
theorem Parts.rebase {w w0 w' : World} {v : Value} {l : List (Value × List Int)} (h : Parts w' w0.heap.size v l) (k : Kp [] w w0) : Parts w' w.heap.size v l :=
  ⟨owns_rebase h.1 (fun i hi => Nat.le_trans k.size (h.1.own i hi)), fun x hx => ⟨row_new (h.2 x hx).1 k, (h.2 x hx).2⟩⟩
theorem Parts.snoc {wr w2 w3 w4 : World} {base : Nat} {v v' : Value} {l : List (Value × List Int)} {x : Value × List Int} (h : Parts wr base v l) (k : Kp [] wr w2) (hx : Row w2 wr.heap.size x.1 x.2) (hb : Bs x.2) (k3 : Kp [] w2 w3)
    (r : RowV w4 base v' (l.map (·.1) ++ [x.1])) (s : RStep w3 v w4 v') (hbase : base ≤ wr.heap.size) : Parts w4 base v' (l ++ [x]) := by
  refine ⟨by rw [List.map_append]; exact r, fun y hy => ?_⟩
  rcases List.mem_append.1 hy with hy | hy
  · obtain ⟨h1, h2, h3⟩ := h.2 y hy
    refine ⟨((h1.kept k (by simp)).kept k3 (by simp)).kept s.1 (fun i hi hm => h3 i hi (by simpa using hm)), h2, fun i hi hv => ?_⟩
    rcases s.2 i hv with h4 | h4
    · exact h3 i hi h4
    · have := h1.lt hi
      have := k.size
      have := k3.size
      omega
  · obtain rfl : y = x := by simpa using hy
    have hlt : ∀ i, y.1.ownBlock = some i → i < w3.heap.size := fun i hi => by have := hx.lt hi; have := k3.size; omega
    have hne : ∀ i, y.1.ownBlock = some i → v.ownBlock ≠ some i := fun i hi hv => by have := h.1.lt hv; have := hx.own i hi; omega
    refine ⟨owns_rebase ((hx.kept k3 (by simp)).kept s.1 (fun i hi hm => hne i hi (by simpa using hm))) (fun i hi => Nat.le_trans hbase (hx.own i hi)), hb, fun i hi hv => ?_⟩
    rcases s.2 i hv with h4 | h4
    · exact hne i hi h4
    · have := hlt i hi; omega
/-- what is gathered so far. -/
def Acc (w : World) (ls : List (List Int)) (v : Value) (wr : World) : Prop := ∃ l, Parts wr w.heap.size v l ∧ l.map (·.2) = ls ∧ Kp [] w wr
theorem Acc.mid {w wr w2 : World} {ls : List (List Int)} {v : Value} (h : Acc w ls v wr) (k : Kp [] wr w2) : Acc w ls v w2 := by
  obtain ⟨l, h1, h2, h3⟩ := h
  exact ⟨l, h1.kept k, h2, h3.trans k⟩
theorem Acc.kp {w wr : World} {ls : List (List Int)} {v : Value} (h : Acc w ls v wr) : Kp [] w wr := by obtain ⟨_, _, _, h3⟩ := h; exact h3
theorem Acc.cap {w wr : World} {ls : List (List Int)} {ao : Option Addr} {m c : Nat} (h : Acc w ls (.slice ao m c) wr) : m = ls.length := by
  obtain ⟨l, h1, h2, _⟩ := h
  have := h1.1.len
  rw [this, ← h2]; simp
/-- one more slice behind them. -/
theorem wpList_acc {w wr w2 : World} {ops : Array Oper} {rest : List Oper} {o : Oper} {a : Act} {Q : Exit → Act → World → Prop} (hgd : o.guard = none) (s x : Operand)
    (ho : o.op = .call { callee := .builtin .append, args := #[s, x], argTypes := #[33, 33] }) (v : Value) (ls : List (List Int)) (hs : a.eval s = v) (hA : Acc w ls v wr) (hl : ls.length ≤ 1000000)
    (vx : Value) (bs : List Int) (k : Kp [] wr w2) (hr : Row w2 wr.heap.size vx bs) (hb : Bs bs) (hx : a.eval x = .slice (some ⟨w2.heap.size, 0, none⟩) 1 1)
    (h : ∀ ao m c w', Acc w (ls ++ [bs]) (.slice ao m c) w' → wpList Tryz.prog ops Q rest (a.put o.dst (.slice ao m c)) w') : wpList Tryz.prog ops Q (o :: rest) a (w2.alloc (.cells #[vx] 22)) := by
  obtain ⟨l, hP, hl2, hK⟩ := hA
  have hP2 := hP.kept (k.trans ((Kp.refl [] w2).alloc (.cells #[vx] 22)))
  obtain ⟨ax, cx, hvx⟩ := hr.shape
  refine wpList_append_rowv hgd s x ho w.heap.size v (l.map (·.1)) hs hP2.1 ⟨w2.heap.size, 0, none⟩ 1 [vx] hx ?_ ?_ ?_ ?_ ?_
  · intro j u hu
    exact World.news_of_block (heap_alloc_new w2 _) j u (by simpa using hu)
  · simp [hvx, Value.oneCell']
  · have : l.length = ls.length := by rw [← hl2]; simp
    simp; omega
  · have := hK.size
    have := k.size
    simp; omega
  · intro ao m c w' r st
    refine h ao m c w' ⟨l ++ [(vx, bs)], hP.snoc (x := (vx, bs)) k hr hb ((Kp.refl [] w2).alloc _) r st hK.size, by simp [hl2], ?_⟩
    exact (hK.trans (k.trans ((Kp.refl [] w2).alloc _))).then st.1 (fun i hi => .inr (hP.1.own i (by simpa using hi)))

theorem Acc.lists {w wr : World} {ls : List (List Int)} {v : Value} (h : Acc w ls v wr) (hl : ls.length ≤ 1000) : ∃ l, Lists wr v l ∧ l.map (·.2) = ls := by
  obtain ⟨l, h1, h2, _⟩ := h
  exact ⟨l, h1.lists (by rw [← List.length_map (f := (·.2)), h2]; exact hl), h2⟩
theorem Acc.after {w w0 wr : World} {ls : List (List Int)} {v : Value} (h : Acc w0 ls v wr) (k : Kp [] w w0) : Acc w ls v wr := by
  obtain ⟨l, h1, h2, h3⟩ := h
  exact ⟨l, h1.rebase k, h2, k.trans h3⟩
theorem cat_map {l : List (Value × List Int)} {ls : List (List Int)} (h : l.map (·.2) = ls) : cat l = ls.flatten := by unfold cat; rw [h]
theorem small_of_map {l : List (Value × List Int)} {ls : List (List Int)} (h : l.map (·.2) = ls) {n : Nat} (hn : ∀ x ∈ ls, x.length ≤ n) : ∀ x ∈ l, x.2.length ≤ n := fun x hx => hn x.2 (by rw [← h]; exact List.mem_map.2 ⟨x, hx, rfl⟩)
theorem Sl.apart {w w' : World} {v : Value} {bs : List Int} {S : List Nat} (h : Sl w v bs) (k : Kp S w w') (hv : ∀ i, v.ownBlock = some i → i ∈ S → bs = []) : Sl w' v bs := by
  by_cases hb : bs = []
  · subst hb
    obtain ⟨ao, c, rfl, h1, h2, h3, _⟩ := h
    exact ⟨ao, c, rfl, h1, h2, h3, fun a _ j u hu => by simp at hu⟩
  · exact h.kept k (fun i hi hm => hb (hv i hi hm))
/-- v is a row of the call's own of slices that read so; none that holds something lies in it. -/
def RowS (w : World) (base : Nat) (v : Value) (l : List (Value × List Int)) : Prop :=
  RowV w base v (l.map (·.1)) ∧ ∀ x ∈ l, Sl w x.1 x.2 ∧ Bs x.2 ∧ ∀ k, x.1.ownBlock = some k → v.ownBlock = some k → x.2 = []
theorem RowS.lists {w : World} {base : Nat} {v : Value} {l : List (Value × List Int)} (h : RowS w base v l) (hl : l.length ≤ 1000) : Lists w v l :=
  lists_of_rowv h.1 hl (fun x hx => ⟨(h.2 x hx).1, (h.2 x hx).2.1⟩)
theorem RowS.kept {w w' : World} {base : Nat} {v : Value} {l : List (Value × List Int)} (h : RowS w base v l) (k : Kp [] w w') : RowS w' base v l :=
  ⟨h.1.kept k (by simp), fun x hx => ⟨(h.2 x hx).1.kept k (by simp), (h.2 x hx).2⟩⟩
theorem Parts.rowS {w : World} {base : Nat} {v : Value} {l : List (Value × List Int)} (h : Parts w base v l) : RowS w base v l :=
  ⟨h.1, fun x hx => ⟨(h.2 x hx).1.sl, (h.2 x hx).2.1, fun k h1 h2 => absurd h2 ((h.2 x hx).2.2 k h1)⟩⟩
/-- a slice is put in at place p. -/
theorem RowS.set {w : World} {base g n c : Nat} {l : List (Value × List Int)} (h : RowS w base (.slice (some ⟨g, 0, none⟩) n c) l) (p : Nat) (x : Value × List Int) (hx : Sl w x.1 x.2) (hB : Bs x.2) (ha : x.1.ownBlock = some g → x.2 = []) :
    RowS (w.setCell ⟨g, p, none⟩ x.1) base (.slice (some ⟨g, 0, none⟩) n c) (l.set p x) := by
  have k : Kp [g] w (w.setCell ⟨g, p, none⟩ x.1) := (Kp.refl [g] w).setCell (p := ⟨g, p, none⟩) (.inl (by simp)) _
  have hn : n = l.length := by have := h.1.len; simpa using this
  refine ⟨?_, fun y hy => ?_⟩
  · have e : (l.map (·.1)).length = n := by simp [hn]
    have h1 : w.ownsRow base 22 1 (.slice (some ⟨g, 0, none⟩) n c) n (l.map (·.1)) := by have := h.1; unfold RowV at this; rw [e] at this; exact this
    have h2 := (h1.stored p x.1).1
    unfold RowV
    rw [List.map_set, List.length_set, e]
    exact h2
  · rcases List.mem_or_eq_of_mem_set hy with hy | rfl
    · obtain ⟨h1, h2, h3⟩ := h.2 y hy
      exact ⟨h1.apart k (fun i hi hm => h3 i hi (by simp at hm; subst hm; rfl)), h2, h3⟩
    · exact ⟨hx.apart k (fun i hi hm => ha (by simp at hm; subst hm; exact hi)), hB, fun i hi hv => ha (by cases hv; exact hi)⟩
theorem RowS.spot {w : World} {base n c : Nat} {ao : Option Addr} {l : List (Value × List Int)} (h : RowS w base (.slice ao n c) l) (hn : 0 < n) : ∃ g, ao = some ⟨g, 0, none⟩ ∧ base ≤ g ∧ g < w.heap.size ∧ n = l.length ∧ (∀ i, i < n → ∃ u, w.cell? ⟨g, i, none⟩ = some u) ∧ ∀ i, w.frozen? ⟨g, i, none⟩ = false := by
  have hl := h.1.len
  subst hl
  rcases h.1.2 with ⟨h', h0⟩ | ⟨g, cap, cur, h', hb, hg, _⟩
  · omega
  · have e : ao = some ⟨g, 0, none⟩ := by injection h'
    subst e
    have h1 : w.ownsRow base 22 1 (.slice (some ⟨g, 0, none⟩) (l.map (·.1)).length c) (l.map (·.1)).length (l.map (·.1)) := h.1
    refine ⟨g, rfl, hb, (Array.getElem?_eq_some_iff.1 hg).1, by simp, fun i hi => ?_, fun i => h1.frozenAt i⟩
    rw [h1.cellAt i (by omega)]
    exact ⟨_, List.getElem?_eq_getElem hi⟩
/-- a list that is copied whole into a new row. -/
theorem rowS_copy {w w' : World} {al : Option Addr} {cl : Nat} {ao : Option Addr} {m c : Nat} {l : List (Value × List Int)} (hL : Lists w (.slice al l.length cl) l) (hr : RowV w' w.heap.size (.slice ao m c) (l.map (·.1))) (k : Kp [] w w') : RowS w' w.heap.size (.slice ao m c) l := by
  refine ⟨hr, fun x hx => ?_⟩
  obtain ⟨i, hi, rfl⟩ := List.getElem_of_mem hx
  obtain ⟨_, _, _, _, h2⟩ := hL
  obtain ⟨_, _, _, _, hS, hB⟩ := h2 i hi
  refine ⟨hS.kept k (by simp), hB, fun j hj hv => ?_⟩
  by_cases hb : l[i].2 = []
  · exact hb
  · obtain ⟨ao', c', e, h1, _, h3, h4⟩ := hS
    cases ao' with
    | none => exact List.eq_nil_of_length_eq_zero (by have := h3 rfl; omega)
    | some a =>
      have hpos : 0 < l[i].2.length := List.length_pos_iff.2 hb
      have hc := h4 a rfl 0 (.int .u8 l[i].2[0]) (by simp [List.getElem?_eq_getElem hpos])
      have hlt := World.block_lt_of_cell? _ _ hc
      rw [add_block] at hlt
      rw [e] at hj
      have : a.block = j := by simpa [Value.ownBlock] using hj
      have := hr.own j hv
      omega
end Go.Proofs.YtillhpgdlmeajaaGreatDoor

/-
  The contracts of Digest, of the program and of the reference.
-/
namespace Go.Proofs.YtillhpgdlmeajaaGreatDoor
open Go.RowKit

theorem val_take_succ (cs : List Int) (k : Nat) (h : k < cs.length) : val (cs.take (k + 1)) = val (cs.take k) * 256 + cs[k] := by
  rw [List.take_succ_eq_append_getElem h, val_snoc]
theorem val_small (cs : List Int) (hB : Bs cs) (h : cs.length ≤ 3) : val cs * 256 ≤ 4294967295 := by
  have h1 := val_bd cs hB
  have h2 : (256 : Nat) ^ cs.length ≤ 256 ^ 3 := Nat.pow_le_pow_right (by omega) h
  have h3 : (256 : Int) ^ cs.length = ((256 ^ cs.length : Nat) : Int) := by simp
  omega

set_option maxRecDepth 100000 in
set_option maxHeartbeats 1000000 in
theorem digest_any (vb : Value) (bs : List Int) (d : Int) (hd : d = digP bs) (w : World) (hS : Sl w vb bs) (hB : Bs bs) (hl : bs.length ≤ 1000000) (hG : Gl w) :
    Calls Tryz.prog 176 #[vb] w fun e w' => e = .returned (.int .u32 d) ∧ Kp [] w w' := by
  have HL := hide (lists1 hS hB)
  have HG := hide hG
  have HD := hide hd
  obtain ⟨ab, cb, hvb, _⟩ := hS
  obtain ⟨nb, hnb⟩ : ∃ n, n = bs.length := ⟨_, rfl⟩
  rw [← hnb] at hvb
  subst hvb
  obtain ⟨r, hr⟩ : ∃ r, r = sha (13 :: cat [(Value.slice ab nb cb, bs)]) := ⟨_, rfl⟩
  have HR := hide hr
  have HRL : Hid (r.length = 32) := by rw [hr]; exact sha_len _
  have HRB : Hid (Bs r) := by rw [hr]; exact sha_bs _
  have HRD : Hid (d = val (r.take 4)) := by rw [hr, hd, cat1]; rfl
  clear hG hd hr hnb hB
  go_enter Tryz.func176, Tryz.ntmps176
  go_wp2_with (go_at_call 144; refine (tagged_any 13 _ _ r (unhide HR) _ (unhide HL) (by omega) (by omega) (by simp) (by simpa using hl) ((unhide HG).kept ((Kp.refl [] w).alloc _) (by simp))).mono ?_; rintro ee w2 ⟨ao2, m2, c2, rfl, R2, K2⟩; obtain rfl : m2 = 32 := R2.len.trans (unhide HRL); have hc2 : 32 ≤ c2 := (by obtain ⟨_, _, e, h', _⟩ := R2.sl; injection e with e1 e2 e3; have := unhide HRL; omega); have hc3 : (4 : Int) ≤ (c2 : Int) := by omega)
  obtain ⟨a2, c2', e2, hc4, hc5, hcell⟩ := R2.sl.at (unhide HRL) (by omega)
  injection e2 with e3 e4 e5
  subst e3
  subst e5
  have HK := hide (((Kp.refl [] w).alloc (.cells #[.slice ab nb cb] 22)).trans K2)
  have HC := hide hcell
  clear R2 K2 hcell HL HR
  go_loopw [3, 11] (fun x i wr => ∃ k : Nat, k ≤ 4 ∧ i = .int .i64 k ∧ x = .int .u32 (val (r.take k)) ∧ wr = w2) (fun _ i _ => 4 - (intOf i).toNat)
  case atStart => exact ⟨0, by omega, rfl, rfl, rfl⟩
  case round =>
    obtain ⟨k, hk, rfl, rfl, hw⟩ := hrel
    subst wr
    by_cases hlt : k < 4
    · have hlt2 : (k : Int) < 4 := by omega
      have hc := unhide HC k (by omega)
      have hkr : k < r.length := by have := unhide HRL; omega
      have hb1 := unhide HRB r[k] (List.getElem_mem hkr)
      have hvb := val_bd (r.take k) ((unhide HRB).take k)
      have hv1 := val_small (r.take k) ((unhide HRB).take k) (by simp; omega)
      rw [show r.getD k 0 = r[k] by simp [List.getElem?_eq_getElem hkr]] at hc
      obtain ⟨x, hx⟩ : ∃ x, x = val (r.take k) := ⟨_, rfl⟩
      obtain ⟨y, hy⟩ : ∃ y, y = r[k] := ⟨_, rfl⟩
      have HX : Hid (val (r.take (k + 1)) = x * 256 + y) := by rw [hx, hy]; exact val_take_succ r k hkr
      rw [← hx] at hvb hv1
      rw [← hx]
      rw [← hy] at hc hb1
      obtain ⟨hb1, hb2⟩ := hb1
      obtain ⟨hx0, _⟩ := hvb
      have hor := bits_or_byte x y hx0 hv1 hb1 hb2
      clear hx hy
      go_wp2_with fail
      go_roundw
      case rel => exact ⟨k + 1, by omega, by go_num, by rw [unhide HX], by trivial⟩
      case measure => simp [intOf]; omega
    · obtain rfl : k = 4 := by omega
      go_wp2_with fail
      go_ret
      exact ⟨by rw [unhide HRD]; rfl, unhide HK⟩
end Go.Proofs.YtillhpgdlmeajaaGreatDoor

/-
  The contracts of the program's Secret, Shown, and what they call.
-/
namespace Go.Proofs.YtillhpgdlmeajaaGreatDoor
open Go.RowKit

set_option maxRecDepth 100000 in
set_option maxHeartbeats 1000000 in
theorem secret_any (vb : Value) (bs : List Int) (key bit side : Int) (r : List Int) (hr : r = secP bs key bit side) (w : World) (hS : Sl w vb bs) (hB : Bs bs) (hl : bs.length ≤ 1000) (hG : Gl w) :
    Calls Tryz.prog 183 #[vb, .int .i64 key, .int .i64 bit, .int .i64 side] w fun e w' => ∃ ao m c, e = .returned (.slice ao m c) ∧ Row w' w.heap.size (.slice ao m c) r ∧ Kp [] w w' := by
  obtain ⟨ob, hob⟩ : ∃ o : Obj, o = (.cells #[.int .u8 (key / 16777216 % 256), .int .u8 (key / 65536 % 256), .int .u8 (key / 256 % 256), .int .u8 (key % 256), .int .u8 (bit % 256), .int .u8 (side % 256)] 5) := ⟨_, rfl⟩
  have hP : Sl (w.alloc ob) (.slice (some ⟨w.heap.size, 0, none⟩) 6 6) (be4 key ++ [bit % 256, side % 256]) := by
    rw [hob]; exact Sl.block (cs := be4 key ++ [bit % 256, side % 256]) (t := 5) (fr := (0, 0)) (heap_alloc_new w _) (by simp [be4, maxLen])
  have hPB : Bs (be4 key ++ [bit % 256, side % 256]) := by
    intro b hb
    rcases List.mem_append.1 hb with h | h
    · exact be4_bs key b h
    · simp only [List.mem_cons, List.not_mem_nil, or_false] at h
      rcases h with rfl | rfl <;> omega
  have HL0 := lists2 (hS.kept ((Kp.refl [] w).alloc ob) (by simp)) hB hP hPB
  rw [show (w.alloc ob).heap.size = w.heap.size + 1 by simp] at HL0
  have HL := hide HL0
  clear HL0
  have HG := hide hG
  have HO := hide hob
  have HK := hide (((Kp.refl [] w).alloc ob).alloc (.cells #[vb, .slice (some ⟨w.heap.size, 0, none⟩) 6 6] 22))
  have hm : Hid (∀ x ∈ [(vb, bs), (Value.slice (some ⟨w.heap.size, 0, none⟩) 6 6, be4 key ++ [bit % 256, side % 256])], x.2.length ≤ 1000000) := by
    intro x hx
    rcases (by simpa using hx : x = (vb, bs) ∨ x = (Value.slice (some ⟨w.heap.size, 0, none⟩) 6 6, be4 key ++ [bit % 256, side % 256])) with rfl | rfl
    · simp; omega
    · simp [be4]
  have HR : Hid (r = sha (10 :: cat [(vb, bs), (Value.slice (some ⟨w.heap.size, 0, none⟩) 6 6, be4 key ++ [bit % 256, side % 256])])) := by rw [hr, cat2]; rfl
  obtain ⟨ab, cb, hvb, _⟩ := hS
  obtain ⟨nb, hnb⟩ : ∃ n, n = bs.length := ⟨_, rfl⟩
  rw [← hnb] at hvb
  subst hvb
  clear hG hr hnb hB hob hP hPB
  go_enter Tryz.func183, Tryz.ntmps183
  go_wp2_with fail
  rw [← unhide HO]
  refine (tagged_any 10 _ _ r (unhide HR) _ (unhide HL) (by omega) (by omega) (by simp) (unhide hm) ((unhide HG).kept (unhide HK) (by simp))).mono ?_
  rintro ee w2 ⟨ao2, m2, c2, rfl, R2, K2⟩
  have HR2 := hide (row_new R2 (unhide HK))
  have HK2 := hide ((unhide HK).trans K2)
  clear HL HK hm HR HO R2 K2
  go_wp2_with fail
  go_ret
  exact ⟨ao2, m2, c2, rfl, unhide HR2, unhide HK2⟩

set_option maxHeartbeats 1000000 in
theorem shownOf_any (vb : Value) (bs : List Int) (r : List Int) (hr : r = sha (11 :: bs)) (w : World) (hS : Sl w vb bs) (hB : Bs bs) (hl : bs.length ≤ 1000) (hG : Gl w) :
    Calls Tryz.prog 185 #[vb] w fun e w' => ∃ ao m c, e = .returned (.slice ao m c) ∧ Row w' w.heap.size (.slice ao m c) r ∧ Kp [] w w' := by
  have HL := hide (lists1 hS hB)
  have HG := hide hG
  have HR : Hid (r = sha (11 :: cat [(vb, bs)])) := hide (by rw [hr, cat1])
  have HK := hide ((Kp.refl [] w).alloc (.cells #[vb] 22))
  obtain ⟨ab, cb, hvb, _⟩ := hS
  obtain ⟨nb, hnb⟩ : ∃ n, n = bs.length := ⟨_, rfl⟩
  rw [← hnb] at hvb
  subst hvb
  clear hG hr hnb hB
  go_enter Tryz.func185, Tryz.ntmps185
  go_wp2_with fail
  refine (tagged_any 11 _ _ r (unhide HR) _ (unhide HL) (by omega) (by omega) (by simp) (by simp; omega) ((unhide HG).kept (unhide HK) (by simp))).mono ?_
  rintro ee w2 ⟨ao2, m2, c2, rfl, R2, K2⟩
  have HR2 := hide (row_new R2 (unhide HK))
  have HK2 := hide ((unhide HK).trans K2)
  clear HL HK HR R2 K2
  go_wp2_with fail
  go_ret
  exact ⟨ao2, m2, c2, rfl, unhide HR2, unhide HK2⟩

set_option maxHeartbeats 1000000 in
theorem publicOf_any (vl : Value) (l : List (Value × List Int)) (r : List Int) (hr : r = sha (12 :: cat l)) (w : World) (hL : Lists w vl l) (hn : l.length ≤ 100000) (hm : ∀ x ∈ l, x.2.length ≤ 1000000) (hG : Gl w) :
    Calls Tryz.prog 168 #[vl] w fun e w' => ∃ ao m c, e = .returned (.slice ao m c) ∧ Row w' w.heap.size (.slice ao m c) r ∧ Kp [] w w' := by
  have HC := hide (tagged_any 12 vl l r hr w hL (by omega) (by omega) hn hm hG)
  obtain ⟨al, cl, rfl, _⟩ := hL
  clear hr hm hG
  go_enter Tryz.func168, Tryz.ntmps168
  go_wp2_with fail
  refine (unhide HC).mono ?_
  rintro ee w2 ⟨ao2, m2, c2, rfl, R2, K2⟩
  clear HC
  go_wp2_with fail
  go_ret
  exact ⟨ao2, m2, c2, rfl, R2, K2⟩

set_option maxHeartbeats 1000000 in
theorem shown_any (vb : Value) (bs : List Int) (key bit side : Int) (r : List Int) (hr : r = shnP bs key bit side) (w : World) (hS : Sl w vb bs) (hB : Bs bs) (hl : bs.length ≤ 1000) (hG : Gl w) :
    Calls Tryz.prog 179 #[vb, .int .i64 key, .int .i64 bit, .int .i64 side] w fun e w' => ∃ ao m c, e = .returned (.slice ao m c) ∧ Row w' w.heap.size (.slice ao m c) r ∧ Kp [] w w' := by
  obtain ⟨q, hq⟩ : ∃ q, q = secP bs key bit side := ⟨_, rfl⟩
  have HC := hide (secret_any vb bs key bit side q hq w hS hB hl hG)
  have HQL : Hid (q.length = 32) := by rw [hq]; exact secP_len _ _ _ _
  have HQB : Hid (Bs q) := by rw [hq]; exact sha_bs _
  have HR : Hid (r = sha (11 :: q)) := by rw [hr, hq]; rfl
  have HG := hide hG
  obtain ⟨ab, cb, hvb, _⟩ := hS
  obtain ⟨nb, hnb⟩ : ∃ n, n = bs.length := ⟨_, rfl⟩
  rw [← hnb] at hvb
  subst hvb
  clear hG hr hnb hB hq
  go_enter Tryz.func179, Tryz.ntmps179
  go_wp2_with fail
  refine (unhide HC).mono ?_
  rintro ee w2 ⟨ao2, m2, c2, rfl, R2, K2⟩
  have HR2 := hide R2
  have HK2 := hide K2
  clear HC R2 K2
  go_wp2_with fail
  refine (shownOf_any _ q r (unhide HR) w2 (unhide HR2).sl (unhide HQB) (by have := unhide HQL; omega) ((unhide HG).kept (unhide HK2) (by simp))).mono ?_
  rintro ee w3 ⟨ao3, m3, c3, rfl, R3, K3⟩
  have HR3 := hide (row_new R3 (unhide HK2))
  have HK3 := hide ((unhide HK2).trans K3)
  clear HR2 HK2 R3 K3
  go_wp2_with fail
  go_ret
  exact ⟨ao3, m3, c3, rfl, unhide HR3, unhide HK3⟩
end Go.Proofs.YtillhpgdlmeajaaGreatDoor

/-
  The contracts of the program's sideOf, bothShown, signers and of what Sign hands on.
-/
namespace Go.Proofs.YtillhpgdlmeajaaGreatDoor
open Go.RowKit

/-- the function value of a side. -/
def tl (b : Bool) : Value := .func (.func (if b then 183 else 179)) #[] #[]
theorem and_one (n : Int) (h0 : 0 ≤ n) : bits .and .u32 n 1 = n % 2 := by
  obtain ⟨m, rfl⟩ := Int.eq_ofNat_of_zero_le h0
  show IntKind.u32.wrap ((BitVec.ofInt 32 (m : Int) &&& BitVec.ofInt 32 1).toNat : Int) = _
  have e1 : (BitVec.ofInt 32 (m : Int) &&& BitVec.ofInt 32 1).toNat = m % 2 := by
    rw [BitVec.toNat_and, show (BitVec.ofInt 32 1).toNat = 1 from rfl, Nat.and_one_is_mod, BitVec.ofInt_natCast, BitVec.toNat_ofNat]
    omega
  rw [e1]
  simp [IntKind.wrap, IntKind.signed, IntKind.bits]
  omega
theorem sd_val (d : Int) (j : Nat) : ((sdP d j : Nat) : Int) = d / 2 ^ (31 - j) % 2 := by unfold sdP; omega

set_option maxHeartbeats 1000000 in
theorem sideOf_any (d : Int) (j s : Nat) (hs : s = sdP d j) (w : World) (h0 : 0 ≤ d) (hj : j < 32) :
    Calls Tryz.prog 184 #[.int .u32 d, .int .i64 j] w fun e w' => e = .returned (.int .i64 s) ∧ w' = w := by
  have hj1 : (j : Int) ≤ 31 := by omega
  have hj2 : (31 - (j : Int)).toNat = 31 - j := by omega
  have hd0 : 0 ≤ d / 2 ^ (31 - j) := Int.ediv_nonneg h0 (Int.le_of_lt (Int.pow_pos (by omega)))
  have ha := and_one _ hd0
  have hsv := sd_val d j
  rw [← hs] at hsv
  have HS := hide hsv
  clear hs hsv
  go_enter Tryz.func184, Tryz.ntmps184
  go_wp2_with fail
  go_ret
  exact ⟨by rw [unhide HS]; rfl, rfl⟩

set_option maxHeartbeats 1000000 in
theorem bothShown_any (j : Int) (w : World) :
    Calls Tryz.prog 170 #[.int .i64 j] w fun e w' => e = .returned (.agg #[tl false, tl false]) ∧ Kp [] w w' := by
  go_enter Tryz.func170, Tryz.ntmps170
  go_wp2_with fail
  refine bodyPost_ret (results_cell_row rfl _ _ w.heap.size _ _ (0, 0) (.array 2 214) rfl (heap_alloc_new w _) Tryz.underlying216 rfl (by kernel_rfl)) rfl ?_
  exact ⟨rfl, (Kp.refl [] w).alloc _⟩

/-- the two function values of bit j by what a digest says. -/
def two (c : Nat → Nat → Bool) (j : Nat) : Value := .agg #[tl (c j 0), tl (c j 1)]
abbrev fSec : Value := .func (.func 183) #[] #[]
abbrev fShn : Value := .func (.func 179) #[] #[]
theorem pair_set {w : World} {b : Nat} {t : TypeId} {x y : Value} (h : w.heap[b]? = some (.cells #[x, y] t (0, 0))) (u v : Value) (o : Obj) : (((w.setCell ⟨b, 0, none⟩ u).setCell ⟨b, 1, none⟩ v).alloc o).heap[b]? = some (.cells #[u, v] t (0, 0)) := by
  have h1 := heap_setCell_same w b 0 _ t u h
  have h2 := heap_setCell_same _ b 1 _ t v h1
  exact ((Kp.refl [] _).alloc o).heap h2 (by simp)
theorem pair_kp {a w : World} {b : Nat} (h : Kp [] a w) (hb : a.heap.size ≤ b) (u v : Value) (o : Obj) : Kp [] a (((w.setCell ⟨b, 0, none⟩ u).setCell ⟨b, 1, none⟩ v).alloc o) :=
  ((h.setCell (p := ⟨b, 0, none⟩) (.inr hb) u).setCell (p := ⟨b, 1, none⟩) (.inr hb) v).alloc o
theorem pair_kp2 {a w : World} {b : Nat} (h : Kp [] a w) (hb : a.heap.size ≤ b) (u v : Value) : Kp [] a ((w.setCell ⟨b, 0, none⟩ u).setCell ⟨b, 1, none⟩ v) :=
  ((h.setCell (p := ⟨b, 0, none⟩) (.inr hb) u).setCell (p := ⟨b, 1, none⟩) (.inr hb) v)
theorem pair_set2 {w : World} {b : Nat} {t : TypeId} {x y : Value} (h : w.heap[b]? = some (.cells #[x, y] t (0, 0))) (u v : Value) : ((w.setCell ⟨b, 0, none⟩ u).setCell ⟨b, 1, none⟩ v).heap[b]? = some (.cells #[u, v] t (0, 0)) := by
  have h1 := heap_setCell_same w b 0 _ t u h
  exact heap_setCell_same _ b 1 _ t v h1
theorem Tryz.szB : (Tryz.prog.info? 216).map (·.size) = some 2 := by kernel_rfl

set_option maxHeartbeats 1000000 in
theorem signers_any (d : Int) (j : Nat) (w : World) (h0 : 0 ≤ d) (hj : j < 32) :
    Calls Tryz.prog 178 #[.int .u32 d, .int .i64 j] w fun e w' => e = .returned (two (digC d) j) ∧ Kp [] w w' := by
  obtain ⟨s, hs⟩ : ∃ s, s = sdP d j := ⟨_, rfl⟩
  have hlt : s < 2 := by rw [hs]; exact sdP_lt d j
  have HT : Hid (two (digC d) j = .agg #[tl (s == 0), tl (s == 1)]) := by rw [hs]; rfl
  have HB := hide bothShown_any
  have HS := hide hs
  clear hs
  rw [unhide HT]
  clear HT
  rcases (by omega : s = 0 ∨ s = 1) with rfl | rfl
  · show Calls Tryz.prog 178 #[.int .u32 d, .int .i64 j] w fun e w' => e = .returned (.agg #[fSec, fShn]) ∧ Kp [] w w'
    go_enter Tryz.func178, Tryz.ntmps178
    go_wp2_with fail
    refine (unhide HB _ _).mono ?_
    rintro ee w2 ⟨rfl, K2⟩
    have HK2 := hide (((Kp.refl [] w).alloc _).trans K2)
    have hlt2 : w.heap.size < w2.heap.size := by have := K2.size; simp at this; omega
    have hg2 := K2.heap (heap_alloc_new w (.cells #[.nilFunc, .nilFunc] 216)) (by simp)
    have hc0 : w2.cell? ⟨w.heap.size, 0, none⟩ = some .nilFunc := by rw [cell_of_row w2 _ 0 _ _ _ hg2]; rfl
    have hc1 : w2.cell? ⟨w.heap.size, 1, none⟩ = some .nilFunc := by rw [cell_of_row w2 _ 1 _ _ _ hg2]; rfl
    have hf0 : w2.frozen? ⟨w.heap.size, 0, none⟩ = false := frozen_of_row w2 _ 0 _ _ hg2
    have hf1 : w2.frozen? ⟨w.heap.size, 1, none⟩ = false := frozen_of_row w2 _ 1 _ _ hg2
    have HG2 := hide hg2
    clear K2 hg2
    simp only [tl, Bool.false_eq_true, if_false]
    go_wp2_with fail
    refine (sideOf_any d j 0 (unhide HS) _ h0 hj).mono ?_
    rintro ee w3 ⟨rfl, hw⟩
    subst w3
    go_wp2_with fail
    refine bodyPost_ret (results_cell_row rfl _ _ w.heap.size _ _ (0, 0) (.array 2 214) rfl (pair_set (unhide HG2) _ _ _) Tryz.underlying216 rfl Tryz.szB) rfl ?_
    exact ⟨rfl, pair_kp (unhide HK2) (Nat.le_refl _) _ _ _⟩
  · show Calls Tryz.prog 178 #[.int .u32 d, .int .i64 j] w fun e w' => e = .returned (.agg #[fShn, fSec]) ∧ Kp [] w w'
    go_enter Tryz.func178, Tryz.ntmps178
    go_wp2_with fail
    refine (unhide HB _ _).mono ?_
    rintro ee w2 ⟨rfl, K2⟩
    have HK2 := hide (((Kp.refl [] w).alloc _).trans K2)
    have hlt2 : w.heap.size < w2.heap.size := by have := K2.size; simp at this; omega
    have hg2 := K2.heap (heap_alloc_new w (.cells #[.nilFunc, .nilFunc] 216)) (by simp)
    have hc0 : w2.cell? ⟨w.heap.size, 0, none⟩ = some .nilFunc := by rw [cell_of_row w2 _ 0 _ _ _ hg2]; rfl
    have hc1 : w2.cell? ⟨w.heap.size, 1, none⟩ = some .nilFunc := by rw [cell_of_row w2 _ 1 _ _ _ hg2]; rfl
    have hf0 : w2.frozen? ⟨w.heap.size, 0, none⟩ = false := frozen_of_row w2 _ 0 _ _ hg2
    have hf1 : w2.frozen? ⟨w.heap.size, 1, none⟩ = false := frozen_of_row w2 _ 1 _ _ hg2
    have HG2 := hide hg2
    clear K2 hg2
    simp only [tl, Bool.false_eq_true, if_false]
    go_wp2_with fail
    refine (sideOf_any d j 1 (unhide HS) _ h0 hj).mono ?_
    rintro ee w3 ⟨rfl, hw⟩
    subst w3
    go_wp2_with fail
    refine bodyPost_ret (results_cell_row rfl _ _ w.heap.size _ _ (0, 0) (.array 2 214) rfl (pair_set (unhide HG2) _ _ _) Tryz.underlying216 rfl Tryz.szB) rfl ?_
    exact ⟨rfl, pair_kp (unhide HK2) (Nat.le_refl _) _ _ _⟩

set_option maxHeartbeats 1000000 in
theorem sign1_any (d : Int) (j b : Nat) (w : World) (h0 : 0 ≤ d) (hj : j < 32) (hd : w.cell? ⟨b, 0, none⟩ = some (.int .u32 d)) :
    Calls Tryz.prog 177 #[.int .i64 j, .pointer (some ⟨b, 0, none⟩)] w fun e w' => e = .returned (two (digC d) j) ∧ Kp [] w w' := by
  have hB := fun w => signers_any d j w h0 hj
  obtain ⟨f0, e0⟩ : ∃ f0, tl (digC d j 0) = .func (.func f0) #[] #[] := ⟨_, rfl⟩
  obtain ⟨f1, e1⟩ : ∃ f1, tl (digC d j 1) = .func (.func f1) #[] #[] := ⟨_, rfl⟩
  have hT : two (digC d) j = .agg #[.func (.func f0) #[] #[], .func (.func f1) #[] #[]] := by unfold two; rw [e0, e1]
  rw [hT] at hB ⊢
  have HB := hide hB
  clear hT e0 e1 hB
  have hd2 := ((Kp.refl [] w).alloc (.cells #[.nilFunc, .nilFunc] 216)).cell hd (by simp)
  clear hd
  go_enter Tryz.func177, Tryz.ntmps177
  go_wp2_with fail
  refine (unhide HB _).mono ?_
  rintro ee w2 ⟨rfl, K2⟩
  have HK2 := hide (((Kp.refl [] w).alloc _).trans K2)
  have hlt2 : w.heap.size < w2.heap.size := by have := K2.size; simp at this; omega
  have hg2 := K2.heap (heap_alloc_new w (.cells #[.nilFunc, .nilFunc] 216)) (by simp)
  have hc0 : w2.cell? ⟨w.heap.size, 0, none⟩ = some .nilFunc := by rw [cell_of_row w2 _ 0 _ _ _ hg2]; rfl
  have hc1 : w2.cell? ⟨w.heap.size, 1, none⟩ = some .nilFunc := by rw [cell_of_row w2 _ 1 _ _ _ hg2]; rfl
  have hf0 : w2.frozen? ⟨w.heap.size, 0, none⟩ = false := frozen_of_row w2 _ 0 _ _ hg2
  have hf1 : w2.frozen? ⟨w.heap.size, 1, none⟩ = false := frozen_of_row w2 _ 1 _ _ hg2
  have HG2 := hide hg2
  clear K2 hg2 hd2
  go_wp2_with fail
  refine bodyPost_ret (results_cell_row rfl _ _ w.heap.size _ _ (0, 0) (.array 2 214) rfl (pair_set2 (unhide HG2) _ _) Tryz.underlying216 rfl Tryz.szB) rfl ?_
  exact ⟨rfl, pair_kp2 (unhide HK2) (Nat.le_refl _) _ _⟩
end Go.Proofs.YtillhpgdlmeajaaGreatDoor

/-
  The contract of the program's partsOf, for whatever chooses the sides; Public and Sign.
-/
namespace Go.Proofs.YtillhpgdlmeajaaGreatDoor
open Go.RowKit
open Go.Proofs

theorem tell_enters (b : Bool) : Enters Tryz.prog (if b then 183 else 179) := by
  cases b
  · exact enters_of Tryz.func179 (by kernel_rfl) rfl
  · exact enters_of Tryz.func183 (by kernel_rfl) rfl
theorem tell_any (b : Bool) (vb : Value) (bs : List Int) (key bit side : Int) (r : List Int) (hr : r = if b then secP bs key bit side else shnP bs key bit side) (w : World) (hS : Sl w vb bs) (hB : Bs bs) (hl : bs.length ≤ 1000) (hG : Gl w) :
    Calls Tryz.prog (if b then 183 else 179) #[vb, .int .i64 key, .int .i64 bit, .int .i64 side] w fun e w' => ∃ ao m c, e = .returned (.slice ao m c) ∧ Row w' w.heap.size (.slice ao m c) r ∧ Kp [] w w' := by
  cases b
  · exact shown_any vb bs key bit side r hr w hS hB hl hG
  · exact secret_any vb bs key bit side r hr w hS hB hl hG

theorem Tryz.infoT : ∃ i, Tryz.prog.info? 214 = some i ∧ i.size = 1 := by
  have h : (Tryz.prog.info? 214).map (·.size) = some 1 := by kernel_rfl
  exact Option.map_eq_some_iff.1 h
theorem index0 (x y : Value) (w : World) : (Instr.index 216 (.agg #[x, y]) (.int .i64 0)).run Tryz.prog w = .ok x w := by
  obtain ⟨i, hi, hs⟩ := Tryz.infoT
  simp [Instr.index, asIntOf, Sem.run_bind, run_underlying Tryz.underlying216 w, sizeOf, typeInfo, hi, hs, part]
theorem index1 (x y : Value) (w : World) : (Instr.index 216 (.agg #[x, y]) (.int .i64 1)).run Tryz.prog w = .ok y w := by
  obtain ⟨i, hi, hs⟩ := Tryz.infoT
  simp [Instr.index, asIntOf, Sem.run_bind, run_underlying Tryz.underlying216 w, sizeOf, typeInfo, hi, hs, part]
theorem ptP_at (bs : List Int) (key : Int) (c : Nat → Nat → Bool) (k s : Nat) (hs : s < 2) : ptP bs key c (2 * k + s) = if c k s then secP bs key (k : Nat) (s : Nat) else shnP bs key (k : Nat) (s : Nat) := by
  unfold ptP
  rw [show (2 * k + s) / 2 = k by omega, show (2 * k + s) % 2 = s by omega]

set_option maxRecDepth 100000 in
set_option maxHeartbeats 2000000 in
theorem partsOf_any (vb : Value) (bs : List Int) (key : Int) (c : Nat → Nat → Bool) (fc : FuncId) (cap : Array Value) (hen : Enters Tryz.prog fc) (w : World) (hS : Sl w vb bs) (hB : Bs bs) (hl : bs.length ≤ 1000) (hG : Gl w)
    (hch : ∀ j, j < 32 → ∀ w', Kp [] w w' → Calls Tryz.prog fc (#[.int .i64 (j : Nat)] ++ cap) w' fun e w'' => e = .returned (two c j) ∧ Kp [] w' w'') :
    Calls Tryz.prog 169 #[vb, .int .i64 key, .func (.func fc) #[] cap] w fun e w' => ∃ ao m cc, e = .returned (.slice ao m cc) ∧ Acc w (ptsP bs key c 64) (.slice ao m cc) w' := by
  obtain ⟨i0, hi0, hz0, hz1, hz2⟩ := info_parts Tryz.infoSl
  have HS := hide hS
  have HG := hide hG
  have HCH := hide hch
  have HB := hide hB
  have hen2 : ∀ (args : Array Value) (w : World), (callFunc fc args).run Tryz.prog w = .ok (.enter fc args) w := hen
  obtain ⟨ab, cb, hvb, _⟩ := hS
  obtain ⟨nb, hnb⟩ : ∃ n, n = bs.length := ⟨_, rfl⟩
  rw [← hnb] at hvb
  subst hvb
  clear hG hch hB hen hnb
  go_enter Tryz.func169, Tryz.ntmps169
  go_wp2_with (at_make; refine wpList_make_own _ rfl _ _ 33 rfl w.heap.size 22 i0 (.slice none 0 0) 1 Tryz.underlying33 hi0 hz0 hz1 .i64 .i64 _ 64 rfl rfl (by omega) (by rw [hz2]; omega) (by unfold maxLen; omega) (Nat.le_refl _) ?_; intro w1 o1 g1; have K1 : Kp [] w w1 := (Kp.refl [] w).grown g1 (by intro k hk; cases hk); have R1 : RowV w1 w.heap.size _ [] := o1)
  have A1 : Hid (Acc w (ptsP bs key c 0) (.slice (some ⟨w.heap.size, 0, none⟩) 0 64) w1) := ⟨[], ⟨R1, fun x hx => by cases hx⟩, rfl, K1⟩
  clear o1 g1 R1 K1
  go_loopw [7, 12] (fun v i wr => ∃ (k m cc : Nat) (ao : Option Addr), k ≤ 32 ∧ v = .slice ao m cc ∧ i = .int .i64 k ∧ Acc w (ptsP bs key c (2 * k)) v wr) (fun _ i _ => 32 - (intOf i).toNat)
  case atStart => exact ⟨0, 0, 64, some ⟨w.heap.size, 0, none⟩, by omega, rfl, rfl, unhide A1⟩
  case round =>
    obtain ⟨k, m, cc, ao, hk, rfl, rfl, Ar⟩ := hrel
    clear A1
    have HA := hide Ar
    clear Ar
    by_cases hlt : k < 32
    · have hlt2 : (k : Int) < 32 := by omega
      go_wp2_with fail
      refine (unhide HCH k hlt wr (unhide HA).kp).mono ?_
      rintro ee w2 ⟨rfl, K2⟩
      have HA2 := hide ((unhide HA).mid K2)
      clear HA K2
      obtain ⟨f0, e0⟩ : ∃ f0, f0 = if c k 0 then 183 else 179 := ⟨_, rfl⟩
      obtain ⟨f1, e1⟩ : ∃ f1, f1 = if c k 1 then 183 else 179 := ⟨_, rfl⟩
      have hT : two c k = .agg #[.func (.func f0) #[] #[], .func (.func f1) #[] #[]] := by unfold two tl; rw [e0, e1]
      rw [hT]
      have hen0 : ∀ (args : Array Value) (w : World), (callFunc f0 args).run Tryz.prog w = .ok (.enter f0 args) w := by rw [e0]; exact tell_enters _
      have hen1 : ∀ (args : Array Value) (w : World), (callFunc f1 args).run Tryz.prog w = .ok (.enter f1 args) w := by rw [e1]; exact tell_enters _
      have HF0 := hide e0
      have HF1 := hide e1
      clear hT e0 e1
      obtain ⟨wo, hwo⟩ : ∃ wo, wo = wr := ⟨_, rfl⟩
      subst hwo
      go_wp2_with fail
      go_loopw [7, 18] (fun v i wi => ∃ (s m cc : Nat) (ao : Option Addr), s ≤ 2 ∧ v = .slice ao m cc ∧ i = .int .i64 s ∧ Acc w (ptsP bs key c (2 * k + s)) v wi) (fun _ i _ => 2 - (intOf i).toNat)
      case atStart => exact ⟨0, m, cc, ao, by omega, rfl, rfl, unhide HA2⟩
      case round =>
        clear HA2
        obtain ⟨s, m2, cc2, ao2, hs, rfl, rfl, Ai⟩ := hrel
        have HI := hide Ai
        clear Ai
        obtain ⟨wi, hwi⟩ : ∃ wi, wi = wr := ⟨_, rfl⟩
        subst hwi
        rcases (by omega : s = 0 ∨ s = 1 ∨ s = 2) with rfl | rfl | rfl
        · have hix := index0 (.func (.func f0) #[] #[]) (.func (.func f1) #[] #[]) wi
          have hr0 := ptP_at bs key c k 0 (by omega)
          obtain ⟨r, hr⟩ : ∃ r, r = ptP bs key c (2 * k + 0) := ⟨_, rfl⟩
          have HRB : Hid (Bs r) := by rw [hr]; exact ptP_bs _ _ _ _
          have HE : Hid (ptsP bs key c (2 * k + 0 + 1) = ptsP bs key c (2 * k + 0) ++ [r]) := by rw [hr]; exact ptsP_succ _ _ _ _
          have HLN : Hid ((ptsP bs key c (2 * k + 0)).length ≤ 1000000) := by rw [ptsP_len]; show 2 * k + 0 ≤ 1000000; omega
          rw [← hr] at hr0
          have HR0 := hide hr0
          have hC := tell_any (c k 0) (.slice ab nb cb) bs key k 0 r (unhide HR0) wi ((unhide HS).kept (unhide HI).kp (by simp)) (unhide HB) hl ((unhide HG).kept (unhide HI).kp (by simp))
          rw [← unhide HF0] at hC
          have HC := hide hC
          clear hr hr0 hC
          go_wp2_with fail
          refine (unhide HC).mono ?_
          rintro ee w4 ⟨a4, m4, c4, rfl, R4, K4⟩
          have HR4 := hide R4
          have HK4 := hide K4
          clear R4 K4 HC
          go_wp2_with (at_builtin; refine wpList_acc rfl (.tmp 22) (.tmp 29) rfl _ _ rfl (unhide HI) (unhide HLN) _ r (unhide HK4) (unhide HR4) (unhide HRB) rfl ?_; intro ao5 m5 c5 w5 A5)
          go_roundw
          case rel => exact ⟨0 + 1, m5, c5, ao5, by omega, rfl, by go_num, by have e := unhide HE; rw [← e] at A5; exact A5⟩
          case measure => simp [intOf]
        · have hix := index1 (.func (.func f0) #[] #[]) (.func (.func f1) #[] #[]) wi
          have hr0 := ptP_at bs key c k 1 (by omega)
          obtain ⟨r, hr⟩ : ∃ r, r = ptP bs key c (2 * k + 1) := ⟨_, rfl⟩
          have HRB : Hid (Bs r) := by rw [hr]; exact ptP_bs _ _ _ _
          have HE : Hid (ptsP bs key c (2 * k + 1 + 1) = ptsP bs key c (2 * k + 1) ++ [r]) := by rw [hr]; exact ptsP_succ _ _ _ _
          have HLN : Hid ((ptsP bs key c (2 * k + 1)).length ≤ 1000000) := by rw [ptsP_len]; show 2 * k + 1 ≤ 1000000; omega
          rw [← hr] at hr0
          have HR0 := hide hr0
          have hC := tell_any (c k 1) (.slice ab nb cb) bs key k 1 r (unhide HR0) wi ((unhide HS).kept (unhide HI).kp (by simp)) (unhide HB) hl ((unhide HG).kept (unhide HI).kp (by simp))
          rw [← unhide HF1] at hC
          have HC := hide hC
          clear hr hr0 hC
          go_wp2_with fail
          refine (unhide HC).mono ?_
          rintro ee w4 ⟨a4, m4, c4, rfl, R4, K4⟩
          have HR4 := hide R4
          have HK4 := hide K4
          clear R4 K4 HC
          go_wp2_with (at_builtin; refine wpList_acc rfl (.tmp 22) (.tmp 29) rfl _ _ rfl (unhide HI) (unhide HLN) _ r (unhide HK4) (unhide HR4) (unhide HRB) rfl ?_; intro ao5 m5 c5 w5 A5)
          go_roundw
          case rel => exact ⟨1 + 1, m5, c5, ao5, by omega, rfl, by go_num, by have e := unhide HE; rw [← e] at A5; exact A5⟩
          case measure => simp [intOf]
        · go_wp2_with fail
          go_roundw
          case rel => exact ⟨k + 1, m2, cc2, ao2, by omega, rfl, by go_num, unhide HI⟩
          case measure => simp [intOf]; omega
    · obtain rfl : k = 32 := by omega
      go_wp2_with fail
      go_ret
      exact ⟨ao, m, cc, rfl, unhide HA⟩
end Go.Proofs.YtillhpgdlmeajaaGreatDoor

/-
  The contracts of the program's Public and Sign.
-/
namespace Go.Proofs.YtillhpgdlmeajaaGreatDoor
open Go.RowKit
open Go.Proofs

theorem ptsP_small (bs : List Int) (key : Int) (c : Nat → Nat → Bool) (n : Nat) : ∀ x ∈ ptsP bs key c n, x.length ≤ 1000000 := by
  intro x hx
  unfold ptsP at hx
  obtain ⟨i, _, rfl⟩ := List.mem_map.1 hx
  rw [ptP_len]; omega

set_option maxRecDepth 100000 in
set_option maxHeartbeats 1000000 in
theorem public_any (vb : Value) (bs : List Int) (key : Int) (r : List Int) (hr : r = pubP bs key) (w : World) (hS : Sl w vb bs) (hB : Bs bs) (hl : bs.length ≤ 1000) (hG : Gl w) :
    Calls Tryz.prog 151 #[vb, .int .i64 key] w fun e w' => ∃ ao m c, e = .returned (.slice ao m c) ∧ Row w' w.heap.size (.slice ao m c) r ∧ Kp [] w w' := by
  have HC := hide (partsOf_any vb bs key noneC 170 #[] (enters_of Tryz.func170 (by kernel_rfl) rfl) w hS hB hl hG (fun j _ w' _ => bothShown_any (j : Nat) w'))
  have HG := hide hG
  have HR := hide hr
  obtain ⟨ab, cb, hvb, _⟩ := hS
  obtain ⟨nb, hnb⟩ : ∃ n, n = bs.length := ⟨_, rfl⟩
  rw [← hnb] at hvb
  subst hvb
  clear hG hB hr hnb
  go_enter Tryz.func151, Tryz.ntmps151
  go_wp2_with fail
  refine (unhide HC).mono ?_
  rintro ee w2 ⟨a2, m2, c2, rfl, A2⟩
  obtain ⟨l, hL, hl2⟩ := A2.lists (by rw [ptsP_len]; omega)
  have HK2 := hide A2.kp
  have HP := hide (publicOf_any _ l r (by rw [unhide HR, cat_map hl2]; rfl) w2 hL (by rw [← List.length_map (f := (·.2)), hl2, ptsP_len]; omega) (small_of_map hl2 (ptsP_small _ _ _ _)) ((unhide HG).kept (unhide HK2) (by simp)))
  clear HC A2 hL hl2
  go_wp2_with fail
  refine (unhide HP).mono ?_
  rintro ee w3 ⟨a3, m3, c3, rfl, R3, K3⟩
  have HR3 := hide (row_new R3 (unhide HK2))
  have HK3 := hide ((unhide HK2).trans K3)
  clear HP HK2 R3 K3
  go_wp2_with fail
  go_ret
  exact ⟨a3, m3, c3, rfl, unhide HR3, unhide HK3⟩

set_option maxRecDepth 100000 in
set_option maxHeartbeats 1000000 in
theorem sign_any (vb : Value) (bs : List Int) (key : Int) (vm : Value) (ms : List Int) (d : Int) (hd : d = digP ms) (w : World) (hS : Sl w vb bs) (hB : Bs bs) (hl : bs.length ≤ 1000) (hM : Sl w vm ms) (hMB : Bs ms) (hml : ms.length ≤ 1000) (hG : Gl w) :
    Calls Tryz.prog 165 #[vb, .int .i64 key, vm] w fun e w' => ∃ ao m c, e = .returned (.slice ao m c) ∧ Acc w (sgnP bs key d) (.slice ao m c) w' := by
  have h0 : 0 ≤ d := by rw [hd]; exact (digP_bd ms).1
  have HD := hide (digest_any vm ms d hd w hM hMB (by omega) hG)
  have HG := hide hG
  have HS := hide hS
  have HB := hide hB
  obtain ⟨ab, cb, hvb, _⟩ := hS
  obtain ⟨nb, hnb⟩ : ∃ n, n = bs.length := ⟨_, rfl⟩
  rw [← hnb] at hvb
  subst hvb
  obtain ⟨am, cm, hvm, _⟩ := hM
  obtain ⟨nm, hnm⟩ : ∃ n, n = ms.length := ⟨_, rfl⟩
  rw [← hnm] at hvm
  subst hvm
  clear hG hB hnb hnm hMB hd
  go_enter Tryz.func165, Tryz.ntmps165
  go_wp2_with fail
  refine (unhide HD).mono ?_
  rintro ee w2 ⟨rfl, K2⟩
  have HK2 := hide K2
  clear HD K2
  go_wp2_with fail
  have K3 := (Kp.refl [] w2).alloc (.cells #[.int .u32 d] 103)
  refine (partsOf_any _ bs key (digC d) 177 #[.pointer (some ⟨w2.heap.size, 0, none⟩)] (enters_of Tryz.func177 (by kernel_rfl) rfl) _ (((unhide HS).kept (unhide HK2) (by simp)).kept K3 (by simp)) (unhide HB) hl (((unhide HG).kept (unhide HK2) (by simp)).kept K3 (by simp)) (fun j hj w' hk => sign1_any d j w2.heap.size w' h0 hj (hk.cell (by rw [cell_of_row _ _ 0 _ _ _ (heap_alloc_new w2 _)]; rfl) (by simp)))).mono ?_
  rintro ee w4 ⟨a4, m4, c4, rfl, A4⟩
  have HA := hide (A4.after ((unhide HK2).trans K3))
  clear A4 K3 HK2
  go_wp2_with fail
  go_ret
  exact ⟨a4, m4, c4, rfl, unhide HA⟩
end Go.Proofs.YtillhpgdlmeajaaGreatDoor

/-
  The contract of the program's areHashes; plain facts on what Root makes of parts.
-/
namespace Go.Proofs.YtillhpgdlmeajaaGreatDoor
open Go.RowKit

theorem areP_bad {ls : List (List Int)} (k : Nat) (h : k < ls.length) (hb : ls[k].length ≠ 32) : areP ls = false := by
  unfold areP
  have : ls.all (fun x => x.length == 32) = false := by
    rw [List.all_eq_false]
    exact ⟨ls[k], List.getElem_mem h, by simpa using hb⟩
  rw [this, Bool.and_false]
theorem areP_good {ls : List (List Int)} (h : ls.length = 64) (hb : ∀ i (h : i < ls.length), ls[i].length = 32) : areP ls = true := by
  unfold areP
  rw [Bool.and_eq_true]
  refine ⟨by simp [h], List.all_eq_true.2 (fun x hx => ?_)⟩
  obtain ⟨i, hi, rfl⟩ := List.getElem_of_mem hx
  simp [hb i hi]
theorem areP_len {ls : List (List Int)} (h : areP ls = true) : ls.length = 64 := by
  unfold areP at h
  simp only [Bool.and_eq_true, beq_iff_eq] at h
  exact h.1
theorem areP_at {ls : List (List Int)} (h : areP ls = true) : ∀ x ∈ ls, x.length = 32 := by
  unfold areP at h
  simp only [Bool.and_eq_true, List.all_eq_true, beq_iff_eq] at h
  exact h.2
theorem areP_short {ls : List (List Int)} (h : ls.length ≠ 64) : areP ls = false := by
  unfold areP
  simp [h]

/-- the parts of the first k bits as Root takes them. -/
def mixP (d : Int) (ls : List (List Int)) (k : Nat) : List (List Int) := ls.mapIdx (fun i x => if i < 2 * k then rtP d i x else x)
theorem mixP_zero (d : Int) (ls : List (List Int)) : mixP d ls 0 = ls := by
  unfold mixP
  apply List.ext_getElem
  · simp
  · intro i h1 h2; simp
theorem mixP_all (d : Int) (ls : List (List Int)) (h : ls.length = 64) : mixP d ls 32 = rtsP d ls := by
  unfold mixP rtsP
  apply List.ext_getElem
  · simp
  · intro i h1 h2
    simp only [List.getElem_mapIdx]
    rw [if_pos (by simp at h1; omega)]
theorem mixP_at (d : Int) (ls : List (List Int)) (k i : Nat) (hi : i < ls.length) (h : i < (mixP d ls k).length) : (mixP d ls k)[i] = if i < 2 * k then rtP d i ls[i] else ls[i] := by simp [mixP]
theorem mixP_succ (d : Int) (ls : List (List Int)) (k p : Nat) (hp : p = 2 * k + sdP d k) (hl : p < ls.length) : (mixP d ls k).set p (sha (11 :: ls[p])) = mixP d ls (k + 1) := by
  have hs := sdP_lt d k
  apply List.ext_getElem
  · simp [mixP]
  · intro i h1 h2
    have hi : i < ls.length := by simpa [mixP] using h2
    rw [List.getElem_set, mixP_at _ _ _ _ hi, mixP_at _ _ _ _ hi]
    by_cases hpi : p = i
    · subst hpi
      rw [if_pos rfl, if_pos (by omega)]
      unfold rtP digC
      rw [if_pos (by rw [show p / 2 = k by omega, show p % 2 = sdP d k by omega]; simp)]
    · rw [if_neg hpi]
      by_cases h3 : i < 2 * k
      · rw [if_pos h3, if_pos (by omega)]
      · rw [if_neg h3]
        by_cases h4 : i < 2 * (k + 1)
        · rw [if_pos h4]
          unfold rtP digC
          rw [if_neg (by rw [show i / 2 = k by omega]; simp; omega)]
        · rw [if_neg h4]
theorem mixP_len (d : Int) (ls : List (List Int)) (k : Nat) : (mixP d ls k).length = ls.length := by simp [mixP]
theorem rtsP_len (d : Int) (ls : List (List Int)) : (rtsP d ls).length = ls.length := by simp [rtsP]
theorem rtsP_small {d : Int} {ls : List (List Int)} (h : ∀ x ∈ ls, x.length = 32) : ∀ x ∈ rtsP d ls, x.length = 32 := by
  intro x hx
  obtain ⟨i, hi, rfl⟩ := List.getElem_of_mem hx
  simp only [rtsP, List.getElem_mapIdx]
  unfold rtP
  split
  · exact sha_len _
  · exact h _ (List.getElem_mem _)
end Go.Proofs.YtillhpgdlmeajaaGreatDoor

/-
  The contract of the program's Root.
-/
namespace Go.Proofs.YtillhpgdlmeajaaGreatDoor
open Go.RowKit

theorem are_cases (l : List (Value × List Int)) : (areP (l.map (·.2)) = true ∧ l.length = 64 ∧ ∀ x ∈ l, x.2.length = 32) ∨ areP (l.map (·.2)) = false := by
  cases h : areP (l.map (·.2))
  · exact .inr rfl
  · refine .inl ⟨rfl, by simpa using areP_len h, fun x hx => areP_at h x.2 (List.mem_map.2 ⟨x, hx, rfl⟩)⟩

/-- what Root answers. -/
def Rooted (b : Bool) (r : List Int) (base : Nat) (v : Value) (w : World) : Prop := if b then ∃ ao m c, v = .slice ao m c ∧ Row w base v r else v = .slice none 0 0

end Go.Proofs.YtillhpgdlmeajaaGreatDoor
