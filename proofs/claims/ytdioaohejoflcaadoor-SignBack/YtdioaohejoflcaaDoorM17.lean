/-
  Lists of slices as arguments; the contracts of the law package's helpers Few and Sized over this seat's program.
-/
import Derived.Test.YtdioaohejoflcaaDoorM14
import Derived.Test.YtdioaohejoflcaaDoorM8
import Derived.Laws.OwnMore
import Derived.Test.YtdioaohejoflcaaDoorM16
import Derived.Test.YtdioaohejoflcaaDoorM15
namespace Go.Proofs.YtdioaohejoflcaaDoor
open Go.ChangeShapes Go.WideShapes Go.ChangeAt Go.RowKit
open Go.Deep

section
variable {H : Type} {enc : TypeId × Value → H} {w : World}
theorem lists_of_trod {v : Value} {fuel : Nat} {x : DataW H × List MemPlace} (h : DataW.trod enc Tryd.prog w 0 (fun _ => true) true fuel 31 [v] = some x) : ∃ l, Lists w v l := by
  rcases open_slice1 Tryd.underlying31 (by kernel_rfl) h with ⟨hcs, _⟩ | ⟨a, len, cap, m, n, V, D, Pl, hcs, _, hl, hm, hmm, _, hx⟩
  · simp only [List.cons.injEq, and_true] at hcs
    subst hcs
    exact ⟨[], none, 0, rfl, by simp, fun i hi => by cases hi⟩
  · simp only [List.cons.injEq, and_true] at hcs
    subst hcs
    simp only [if_true] at hmm
    subst hmm
    have key : ∀ i, i < len → ∃ d : Value × List Int, w.cell? (a.add i) = some d.1 ∧ Sl w d.1 d.2 ∧ Bs d.2 := fun i hi => by
      obtain ⟨h1, h2⟩ := hx i (by omega)
      obtain ⟨bs, hs, hB⟩ := bytes_of_trod h2
      exact ⟨(V i, bs), h1, hs, hB⟩
    have inst : Inhabited (Value × List Int) := ⟨(.slice none 0 0, [])⟩
    obtain ⟨F, hF⟩ := @choose_lt (Value × List Int) inst len (fun i d => w.cell? (a.add i) = some d.1 ∧ Sl w d.1 d.2 ∧ Bs d.2) key
    have hlen : ((List.range len).map F).length = len := by simp
    refine ⟨(List.range len).map F, some a, m, by rw [hlen], by unfold maxLen at hm; omega, fun i hi => ?_⟩
    rw [hlen] at hi
    have s0 := (hF 0 (by omega)).1
    obtain ⟨hA, hS, hB⟩ := hF i hi
    obtain ⟨b, off, spot⟩ := a
    have hspot : ((⟨b, off, spot⟩ : Addr).add 0).spot = none := World.cell?_spot s0
    have hspot' : spot = none := by rw [Addr.add_zero'] at hspot; exact hspot
    subst hspot'
    rw [Addr.add_lit] at hA
    exact ⟨b, off, rfl, by simpa using hA, by simpa using hS, by simpa using hB⟩
end

theorem Lists.take {w : World} {ao : Option Addr} {len c n : Nat} {l : List (Value × List Int)} (h : Lists w (.slice ao len c) l) (hn : n ≤ l.length) : Lists w (.slice ao n c) (l.take n) := by
  obtain ⟨ao', c', e, h1, h2⟩ := h
  cases e
  have hl : (l.take n).length = n := by simp; omega
  refine ⟨ao, c, by rw [hl], by omega, fun i hi => ?_⟩
  obtain ⟨b, off, e, h3, h4, h5⟩ := h2 i (by omega)
  have e2 : (l.take n)[i] = l[i]'(by omega) := List.getElem_take
  rw [e2]
  exact ⟨b, off, e, h3, h4, h5⟩

theorem Tryd.infoBytes : (Tryd.prog.info? 24).map (fun i => (i.zero, i.size, i.bytes)) = some (some (.slice none 0 0), 1, 24) := by kernel_rfl

/-- the row of texts that Few has made so far. -/
def FewAt (w wr : World) (l : List (Value × List Int)) (most k : Nat) (o : Value) : Prop :=
  ∃ l' : List (Value × List Int), l'.length = k ∧ wr.ownsRow w.heap.size 24 1 o k (l'.map (·.1)) ∧ Kp [] w wr ∧ (∀ x ∈ l', Sl w x.1 x.2) ∧ l'.map (·.2) = (l.take k).map fun x => x.2.take most

theorem FewAt.lists {w wr : World} {l : List (Value × List Int)} {most k : Nat} {o : Value} (h : FewAt w wr l most k o) (hB : ∀ x ∈ l, Bs x.2) (hk : k ≤ 1000) : ∃ l', Lists wr o l' ∧ l'.map (·.2) = (l.take k).map fun x => x.2.take most := by
  obtain ⟨l', rfl, ho, hK, hS, he⟩ := h
  refine ⟨l', ?_, he⟩
  have hBs : ∀ x ∈ l', Bs x.2 := fun x hx => by
    have : x.2 ∈ l'.map (·.2) := List.mem_map_of_mem hx
    rw [he] at this
    obtain ⟨y, hy, hy2⟩ := List.mem_map.1 this
    rw [← hy2]
    exact (hB y (List.mem_of_mem_take hy)).take _
  rcases ho.2 with ⟨rfl, h0⟩ | ⟨g, cap, cur, rfl, _, hg, _⟩
  · exact ⟨none, 0, by rw [h0], by omega, fun i hi => by omega⟩
  · refine ⟨some ⟨g, 0, none⟩, cap, rfl, by omega, fun i hi => ⟨g, 0, rfl, ?_, (hS _ (List.getElem_mem hi)).kept hK (by simp), hBs _ (List.getElem_mem hi)⟩⟩
    have := ho.cells (g := g) rfl i l'[i].1 (by simp [List.getElem?_eq_getElem hi])
    rwa [Addr.add_lit] at this

theorem made_all {w : World} {base g n : Nat} {xs : List Value} (h : w.ownsRow base 5 1 (.slice (some ⟨g, 0, none⟩) n n) n xs) : w.heap[g]? = some (.cells xs.toArray 5 (0, 0)) := by
  rcases h.2 with ⟨h', _⟩ | ⟨g', cap, cur, h', _, hg, _, _, hs, ht⟩
  · cases h'
  · cases h'
    have e : cur.toList = xs := by rw [← ht]; exact (List.take_of_length_le (by simp [hs])).symm
    rw [hg, ← e]
theorem made_zero : (madeCells (Value.int .u8 0).cells (32 * 1)).toList = (List.replicate 32 (0 : Int)).map (Value.int .u8) := by
  rw [List.map_replicate]
  exact toList_madeCells_one (.int .u8 0) 32
theorem splice_zero (bs : List Int) : splice ((List.replicate 32 (0 : Int)).map (Value.int .u8)) 0 ((bs.take 32).map (Value.int .u8)) = (bs.take 32 ++ List.replicate (32 - (bs.take 32).length) 0).map (Value.int .u8) := by
  unfold splice
  rw [List.take_zero, List.nil_append, List.map_append, ← List.map_drop, List.drop_replicate]
  congr 3
  simp

set_option maxRecDepth 100000 in
set_option maxHeartbeats 1000000 in
theorem sized_any (v : Value) (bs : List Int) (w : World) (hS : Sl w v bs) (hB : Bs bs) :
    Calls Tryd.prog 21 #[v, .int .i64 32] w fun e w' => ∃ g bs', e = .returned (.slice (some ⟨g, 0, none⟩) 32 32) ∧ bs'.length = 32 ∧ Bs bs' ∧ Row w' w.heap.size (.slice (some ⟨g, 0, none⟩) 32 32) bs' ∧ Kp [] w w' := by
  obtain ⟨i0, hi0, hz0, hz1, hz2⟩ := info_parts Tryd.info5
  obtain ⟨ao, c, rfl, h1, h2, h3, h4⟩ := hS
  obtain ⟨cs, hcs⟩ : ∃ cs, cs = (bs.take 32).map (Value.int .u8) := ⟨_, rfl⟩
  have hcl : cs.length = min bs.length 32 := by rw [hcs]; simp; omega
  have hone : ∀ u ∈ cs, u.oneCell' = true := by
    rw [hcs]
    intro u hu
    obtain ⟨x, _, rfl⟩ := List.mem_map.1 hu
    rfl
  have hsrc : Hid (∀ a, ao = some a → ∀ j u, cs[j]? = some u → w.cell? (a.add j) = some u) := by
    rw [hcs]
    intro a ha j u hu
    refine h4 a ha j u ?_
    rw [List.map_take, List.getElem?_take] at hu
    split at hu
    · exact hu
    · cases hu
  have HC := hide hcs
  have HCL := hide hcl
  have HB := hide hB
  obtain ⟨nb, hnb⟩ : ∃ n, n = bs.length := ⟨_, rfl⟩
  rw [← hnb] at h1 HCL ⊢
  clear h4 hcs hcl hB hnb
  go_enter Tryd.func21, Tryd.ntmps21
  have hszi : (Tryd.prog.info? 5).map (·.size) = some 1 := by rw [hi0]; simp [hz1]
  go_wp2_with (at_make; refine wpList_make_full _ rfl _ _ 24 rfl w.heap.size 5 i0 (.int .u8 0) 1 Tryd.underlying24 hi0 hz0 hz1 .i64 .i64 _ _ 32 rfl rfl (by omega) (by omega) (by rw [hz2]; omega) (by unfold maxLen; omega) (Nat.le_refl _) ?_; intro w1 o1 g1; refine Hid.out ?_)
  rw [made_zero] at o1
  have hcur := hide (made_all o1)
  have B1 : Below w.heap.size w w1 := (Below.refl _ _).grown g1 (Nat.le_refl _) (by intro k hk; cases hk)
  have HB1 := hide B1
  obtain ⟨zs, hzs⟩ : ∃ zs, zs = (List.replicate 32 (0 : Int)).map (Value.int .u8) := ⟨_, rfl⟩
  rw [← hzs] at hcur
  have HZ := hide hzs
  have HZL : Hid (zs.length = 32) := hide (by rw [hzs]; simp)
  clear o1 g1 B1 hzs
  refine hide ?_
  go_wp2_with (refine wpList_copy_splice rfl (.tmp 8) (.tmp 9) 24 24 rfl 5 Tryd.underlying24 hszi (some ⟨w.heap.size, 0, none⟩) ao 32 32 nb c rfl rfl w.heap.size 0 zs 5 (unhide hcur) cs (by have := unhide HCL; unfold Nat.min at *; omega) (fun hpos => ⟨rfl, copy_src (unhide HB1) (unhide hsrc) (h3) (by have := unhide HCL; omega)⟩) (by have := unhide HCL; have := unhide HZL; omega) hone w.heap.size w (unhide HB1) (Nat.le_refl _) ?_; intro w2 H2 B2; refine Hid.out ?_)
  have hbl : (bs.take 32 ++ List.replicate (32 - (bs.take 32).length) (0 : Int)).length = 32 := by simp; omega
  have hrow : Row w2 w.heap.size (.slice (some ⟨w.heap.size, 0, none⟩) 32 32) (bs.take 32 ++ List.replicate (32 - (bs.take 32).length) 0) := by
    have := H2.out
    rw [unhide HZ, unhide HC, splice_zero] at this
    exact row_of_block (Nat.le_refl _) this hbl (by unfold maxLen; omega)
  have hbb : Bs (bs.take 32 ++ List.replicate (32 - (bs.take 32).length) (0 : Int)) := by
    intro b hb
    rcases List.mem_append.1 hb with h | h
    · exact (unhide HB).take 32 b h
    · rw [List.eq_of_mem_replicate h]; omega
  have HRW := hide hrow
  have HBB := hide hbb
  have HBL := hide hbl
  have HK2 := hide (Kp.of_below B2)
  clear hrow hbb hbl H2 B2
  refine hide ?_
  go_wp2_with fail
  go_ret
  exact ⟨_, _, rfl, unhide HBL, unhide HBB, unhide HRW, unhide HK2⟩
end Go.Proofs.YtdioaohejoflcaaDoor

/-
  A part of a signature that is copied, put in again and turned at one place.
-/
namespace Go.Proofs.YtdioaohejoflcaaDoor
open Go.RowKit

theorem xor_bd (x y : Int) : 0 ≤ bits .xor .u8 x y ∧ bits .xor .u8 x y ≤ 255 := by
  show 0 ≤ IntKind.u8.wrap _ ∧ IntKind.u8.wrap _ ≤ 255
  simp [IntKind.wrap, IntKind.signed, IntKind.bits]
  omega
theorem xor_zero (x : Int) (h0 : 0 ≤ x) (h1 : x ≤ 255) : bits .xor .u8 x 0 = x := by
  obtain ⟨m, rfl⟩ := Int.eq_ofNat_of_zero_le h0
  have h : ∀ m ∈ List.range 256, bits .xor .u8 (m : Int) 0 = (m : Int) := by decide +kernel
  exact h m (by simp; omega)
theorem Bs.set {bs : List Int} (h : Bs bs) (i : Nat) (x : Int) (h0 : 0 ≤ x) (h1 : x ≤ 255) : Bs (bs.set i x) := fun b hb => by
  rcases List.mem_or_eq_of_mem_set hb with h2 | rfl
  · exact h b h2
  · exact ⟨h0, h1⟩
theorem Row.spot {w : World} {base n c : Nat} {ao : Option Addr} {bs : List Int} (h : Row w base (.slice ao n c) bs) (h0 : 0 < n) :
    ∃ g, ao = some ⟨g, 0, none⟩ ∧ base ≤ g ∧ g < w.heap.size ∧ (∀ k (hk : k < bs.length), w.cell? ⟨g, k, none⟩ = some (.int .u8 bs[k])) ∧ (∀ k, w.frozen? ⟨g, k, none⟩ = false) ∧ ∀ k x, Row (w.setCell ⟨g, k, none⟩ (.int .u8 x)) base (.slice ao n c) (bs.set k x) := by
  have hn := h.len
  subst hn
  rcases h.2 with ⟨h', h1⟩ | ⟨g, cap, cur, h', hb, hg, _⟩
  · injection h'; omega
  · have e : ao = some ⟨g, 0, none⟩ := by injection h'
    subst e
    have h1 : w.ownsRow base 5 1 (.slice (some ⟨g, 0, none⟩) bs.length c) bs.length (bs.map (Value.int .u8)) := h
    refine ⟨g, rfl, hb, (Array.getElem?_eq_some_iff.1 hg).1, fun k hk => ?_, fun k => h1.frozenAt k, fun k x => ?_⟩
    · rw [h1.cellAt k (by omega)]; simp [List.getElem?_eq_getElem hk]
    · have := (h1.stored k (.int .u8 x)).1
      unfold Row
      rw [List.length_set, List.map_set]
      exact this
theorem RowS.frz {w : World} {base g n c : Nat} {l : List (Value × List Int)} (h : RowS w base (.slice (some ⟨g, 0, none⟩) n c) l) (i : Nat) : w.frozen? ⟨g, i, none⟩ = false := by
  have hl := h.1.len
  subst hl
  have h1 : w.ownsRow base 24 1 (.slice (some ⟨g, 0, none⟩) (l.map (·.1)).length c) (l.map (·.1)).length (l.map (·.1)) := h.1
  exact h1.frozenAt i
/-- what was put in at place i, and turned there. -/
theorem turned {w3 w4 : World} {base g g5 n c c5 i k : Nat} {l : List (Value × List Int)} {bs : List Int} (hP : Parts w3 base (.slice (some ⟨g, 0, none⟩) n c) l) (K : Kp [] w3 w4)
    (R : Row w4 w3.heap.size (.slice (some ⟨g5, 0, none⟩) bs.length c5) bs) (hB : Bs bs) (hpos : 0 < bs.length) (x : Int) (h0 : 0 ≤ x) (h1 : x ≤ 255) :
    RowS ((w4.setCell ⟨g, i, none⟩ (.slice (some ⟨g5, 0, none⟩) bs.length c5)).setCell ⟨g5, k, none⟩ (.int .u8 x)) base (.slice (some ⟨g, 0, none⟩) n c) (l.set i (.slice (some ⟨g5, 0, none⟩) bs.length c5, bs.set k x)) := by
  have hg : g < w3.heap.size := hP.1.lt rfl
  have hg5 : w3.heap.size ≤ g5 := R.own g5 rfl
  have hS4 := (hP.kept K).rowS
  have hS5 := hS4.set i (.slice (some ⟨g5, 0, none⟩) bs.length c5, bs) R.sl hB (fun h => by
    have : g5 = g := by simpa [Value.ownBlock] using h
    omega)
  have k5 : Kp [g] w4 (w4.setCell ⟨g, i, none⟩ (.slice (some ⟨g5, 0, none⟩) bs.length c5)) := (Kp.refl [g] w4).setCell (p := ⟨g, i, none⟩) (.inl (by simp)) _
  have R5 := R.kept k5 (fun j hj => by have : g5 = j := by simpa [Value.ownBlock] using hj
                                       simp; omega)
  have k6 : Kp [g5] (w4.setCell ⟨g, i, none⟩ (.slice (some ⟨g5, 0, none⟩) bs.length c5)) ((w4.setCell ⟨g, i, none⟩ (.slice (some ⟨g5, 0, none⟩) bs.length c5)).setCell ⟨g5, k, none⟩ (.int .u8 x)) := (Kp.refl [g5] _).setCell (p := ⟨g5, k, none⟩) (.inl (by simp)) _
  refine ⟨?_, fun y hy => ?_⟩
  · have := hS5.1.kept k6 (fun j hj => by have : g = j := by simpa [Value.ownBlock] using hj
                                          simp; omega)
    rw [List.map_set] at this ⊢
    exact this
  · rcases List.mem_or_eq_of_mem_set hy with hy | rfl
    · obtain ⟨h2, h3, h4⟩ := hP.2 y hy
      refine ⟨((h2.sl.kept K (by simp)).kept k5 (fun j hj hm => h4 j hj (by simp at hm; subst hm; rfl))).kept k6 (fun j hj hm => ?_), h3, fun j hj hv => absurd hv (h4 j hj)⟩
      have := h2.lt hj
      simp at hm
      omega
    · obtain ⟨g', e, _, _, _, _, hst⟩ := R5.spot hpos
      obtain rfl : g5 = g' := by simpa using e
      refine ⟨(hst k x).sl, hB.set k x h0 h1, fun j hj hv => ?_⟩
      have e1 : g5 = j := by simpa [Value.ownBlock] using hj
      have e2 : g = j := by simpa [Value.ownBlock] using hv
      omega
end Go.Proofs.YtdioaohejoflcaaDoor

/-
  Rows of rows of the call's own, gathered while other blocks change; slices and lists of which one byte is turned.
-/
namespace Go.Proofs.YtdioaohejoflcaaDoor
open Go.RowKit
open Go.Proofs

/-- rows that are gathered, all of the call's own, while blocks in S may change. -/
def AccP (S : List Nat) (w : World) (ls : List (List Int)) (v : Value) (wr : World) : Prop := ∃ l, Parts wr w.heap.size v l ∧ l.map (·.2) = ls ∧ Kp S w wr
theorem AccP.kp {S : List Nat} {w wr : World} {ls : List (List Int)} {v : Value} (h : AccP S w ls v wr) : Kp S w wr := by obtain ⟨_, _, _, h3⟩ := h; exact h3
theorem AccP.own {S : List Nat} {w wr : World} {ls : List (List Int)} {v : Value} (h : AccP S w ls v wr) : ∀ q, v.ownBlock = some q → w.heap.size ≤ q ∧ q < wr.heap.size := by obtain ⟨_, h1, _, _⟩ := h; exact fun q hq => ⟨h1.1.own q hq, h1.1.lt hq⟩
theorem Parts.off {w w' : World} {base q : Nat} {v : Value} {l : List (Value × List Int)} (h : Parts w base v l) (k : Kp [q] w w') (hq : q < base) : Parts w' base v l :=
  ⟨h.1.kept k (fun i hi => by have := h.1.own i hi; simp; omega), fun x hx => ⟨(h.2 x hx).1.kept k (fun i hi => by have := (h.2 x hx).1.own i hi; simp; omega), (h.2 x hx).2⟩⟩
theorem AccP.off {S : List Nat} {w wr w2 : World} {ls : List (List Int)} {v : Value} {q : Nat} (h : AccP S w ls v wr) (k : Kp [q] wr w2) (hq : q ∈ S) (hlt : q < w.heap.size) : AccP S w ls v w2 := by
  obtain ⟨l, h1, h2, h3⟩ := h
  exact ⟨l, h1.off k hlt, h2, h3.trans (k.mono (by simpa using hq))⟩
theorem AccP.mid {S : List Nat} {w wr w2 : World} {ls : List (List Int)} {v : Value} (h : AccP S w ls v wr) (k : Kp [] wr w2) : AccP S w ls v w2 := by
  obtain ⟨l, h1, h2, h3⟩ := h
  exact ⟨l, h1.kept k, h2, h3.trans (k.mono (by simp))⟩
theorem AccP.len {S : List Nat} {w wr : World} {ls : List (List Int)} {ao : Option Addr} {m c : Nat} (h : AccP S w ls (.slice ao m c) wr) : m = ls.length := by
  obtain ⟨l, h1, h2, _⟩ := h
  have := h1.1.len
  rw [this, ← h2]; simp
/-- one more row behind them, at a step of a region that draws its order. -/
theorem step_accp {S : List Nat} {w wr w2 w3 : World} {ops : Array Oper} {o : Oper} {a : Act} {K : Act → World → Prop} {Q : Exit → Act → World → Prop} {E : Prop} (hgd : o.guard = none) (s x : Operand)
    (ho : o.op = .call { callee := .builtin .append, args := #[s, x], argTypes := #[31, 31] }) (v : Value) (ls : List (List Int)) (hs : a.eval s = v) (hA : AccP S w ls v wr) (hl : ls.length ≤ 1000000)
    (vx : Value) (bs : List Int) (k : Kp [] wr w2) (hR : Row w2 wr.heap.size vx bs) (hB : Bs bs) (g : Nat) (hx : a.eval x = .slice (some ⟨g, 0, none⟩) 1 1) (hc : w3.cell? ⟨g, 0, none⟩ = some vx) (k3 : Kp [] w2 w3)
    (h : ∀ ao m c w', AccP S w (ls ++ [bs]) (.slice ao m c) w' → RStep wr v w' (.slice ao m c) → K (a.put o.dst (.slice ao m c)) w') :
    if Region.wanted o (yielded ops a.tmps) = true then Oper.wp Tryd.prog o a w3 K Q else E := by
  have hw : Region.wanted o (yielded ops a.tmps) = true := by simp [Region.wanted, hgd]
  rw [if_pos hw]
  obtain ⟨i0, hi0, hz0, hz1, hz2⟩ := info_parts Tryd.infoSl
  obtain ⟨l, hP, hl2, hK⟩ := hA
  have hP2 := hP.kept (k.trans k3)
  obtain ⟨ax, cx, hvx⟩ := hR.shape
  obtain ⟨av, cv, hv⟩ := hP2.1.shape
  have hll : l.length = ls.length := by rw [← hl2]; simp
  have hbase : w.heap.size ≤ w3.heap.size := Nat.le_trans hK.size (k.trans k3).size
  obtain ⟨ys, hys⟩ : ∃ ys, ys = l.map (·.1) := ⟨_, rfl⟩
  have hP2r : RowV w3 w.heap.size v ys := by rw [hys]; exact hP2.1
  have hyl : ys.length ≤ 1000000 := by rw [hys, List.length_map]; omega
  obtain ⟨v', w1, hr, hown1, hgrow, _, hat⟩ := run_append_own_at (P := Tryd.prog) w3 w.heap.size 31 o.type 24 i0 (.slice none 0 0) 1 24 Tryd.underlying31 hi0 hz0 hz1 hz2 rfl (by decide) v ys.length ys hP2r ⟨g, 0, none⟩ 1 1 [vx] (by simp) (fun j u hu => by
    have hj : j = 0 := by have := (List.getElem?_eq_some_iff.1 hu).1; simpa using this
    subst hj
    simp at hu
    subst hu
    exact hc) (by simp [hvx, Value.oneCell']) (by unfold maxLen; omega) (by omega) hbase
  have R : RowV w1 w.heap.size v' (ys ++ [vx]) := by unfold RowV; rw [List.length_append]; exact hown1
  rw [hys] at R
  obtain ⟨ao', c', hv'⟩ := R.shape
  subst hv'
  have st : RStep w3 v w1 (.slice ao' (l.map (·.1) ++ [vx]).length c') := ⟨(Kp.refl _ w3).grown hgrow (fun k hk => .inl (by simp [hk])), fun k hk => by
    rcases hat with e | e
    · exact .inl (e ▸ hk)
    · rw [e] at hk; cases hk; exact .inr (Nat.le_refl _)⟩
  have hKK := h ao' _ c' w1 ⟨l ++ [(vx, bs)], hP.snoc (x := (vx, bs)) k hR hB k3 R st hK.size, by simp [hl2], (hK.trans ((k.trans k3).mono (by simp))).then st.1 (fun i hi => .inr (hP.1.own i (by simpa using hi)))⟩ (st.after (k.trans k3))
  unfold Oper.wp execOp
  simp only [ho, resolve, invoke, builtin, Sem.run_bind, Sem.run_pure, Result.andThen_ok, List.map_toArray, List.map_cons, List.map_nil, hs, hx, hr]
  exact hKK

/-- a list of slices that lies apart from the block g. -/
def Lz (g : Nat) (w : World) (v : Value) (ls : List (List Int)) : Prop :=
  ∃ l, Lists w v l ∧ l.map (·.2) = ls ∧ (∀ q, v.ownBlock = some q → q ≠ g) ∧ ∀ x ∈ l, ∀ q, x.1.ownBlock = some q → q ≠ g
theorem Lz.kept {g : Nat} {w w' : World} {v : Value} {ls : List (List Int)} (h : Lz g w v ls) (k : Kp [] w w') : Lz g w' v ls := by
  obtain ⟨l, h1, h2⟩ := h
  exact ⟨l, h1.kept k, h2⟩
theorem Lz.off {g : Nat} {w w' : World} {v : Value} {ls : List (List Int)} (h : Lz g w v ls) (k : Kp [g] w w') : Lz g w' v ls := by
  obtain ⟨l, h1, h2, h3, h4⟩ := h
  exact ⟨l, h1.off k (fun q hq => by simpa using h3 q hq) (fun y hy q hq => by simpa using h4 y hy q hq), h2, h3, h4⟩
theorem AccP.lz {S : List Nat} {w wr : World} {ls : List (List Int)} {v : Value} (h : AccP S w ls v wr) (hl : ls.length ≤ 1000) (g : Nat) (hg : g < w.heap.size) : Lz g wr v ls := by
  obtain ⟨l, h1, h2, h3⟩ := h
  refine ⟨l, h1.lists (by rw [← List.length_map (f := (·.2)), h2]; exact hl), h2, fun q hq => ?_, fun x hx q hq => ?_⟩
  · have := h1.1.own q hq; omega
  · have := (h1.2 x hx).1.own q hq; omega
theorem cell_setCell_ne {w : World} {a b : Addr} {u : Value} (hs : a.spot = none) (h : b ≠ a) (hb : b.spot = none) : (w.setCell a u).cell? b = w.cell? b := by
  obtain ⟨ab, ao, as'⟩ := a
  obtain ⟨bb, bo, bs'⟩ := b
  simp only at hs hb
  subst hs
  subst hb
  by_cases hblk : bb = ab
  · subst hblk
    have hoff : ao ≠ bo := fun e => h (by rw [e])
    unfold World.cell? World.setCell
    simp only
    cases hx : w.heap[bb]? with
    | none =>
      have hle := Array.getElem?_eq_none_iff.1 hx
      rw [Array.getElem?_eq_none (by simpa using hle)]
    | some o =>
      have hlt : bb < w.heap.size := (Array.getElem?_eq_some_iff.1 hx).1
      have hx' : w.heap[bb] = o := by simpa [Array.getElem?_eq_getElem hlt] using hx
      rw [Array.getElem?_eq_getElem (by simpa using hlt), Array.getElem_modify_self, hx']
      cases o <;> simp [Array.getElem?_setIfInBounds_ne hoff]
  · exact World.cell?_of_block (Below.heap_setCell _ _ _ _ (by simpa using hblk))
theorem cell_setCell_same {w : World} {b off : Nat} {u y : Value} (h : w.cell? ⟨b, off, none⟩ = some y) : (w.setCell ⟨b, off, none⟩ u).cell? ⟨b, off, none⟩ = some u := by
  unfold World.cell? World.setCell at *
  simp only at *
  cases hx : w.heap[b]? with
  | none => simp [hx] at h
  | some o =>
    have hlt : b < w.heap.size := (Array.getElem?_eq_some_iff.1 hx).1
    have hx' : w.heap[b] = o := by simpa [Array.getElem?_eq_getElem hlt] using hx
    rw [hx] at h
    rw [Array.getElem?_eq_getElem (by simpa using hlt), Array.getElem_modify_self, hx']
    cases o with
    | cells c t fr =>
      simp at h ⊢
      have : off < c.size := (Array.getElem?_eq_some_iff.1 h).1
      simp [this]
    | _ => simp at h
theorem spot_of_cell {w : World} {a : Addr} {v : Value} (h : w.cell? a = some v) : a.spot = none := by
  unfold World.cell? at h
  cases hx : w.heap[a.block]? with
  | none => rw [hx] at h; cases h
  | some o =>
    rw [hx] at h
    cases o with
    | cells c t fr =>
      simp only at h
      cases hs : a.spot with
      | none => rfl
      | some x => rw [hs] at h; simp at h
    | _ => simp at h
/-- one byte is turned: whatever reads as bytes still does. -/
theorem Sl.poke {w : World} {v : Value} {bs : List Int} {b off : Nat} {y : Value} (h : Sl w v bs) (hB : Bs bs) (x : Int) (h0 : 0 ≤ x) (h1 : x ≤ 255) (hc : w.cell? ⟨b, off, none⟩ = some y) : ∃ cs, Sl (w.setCell ⟨b, off, none⟩ (.int .u8 x)) v cs ∧ Bs cs := by
  obtain ⟨ao, c, rfl, k1, k2, k3, k4⟩ := h
  cases ao with
  | none =>
    have : bs = [] := List.eq_nil_of_length_eq_zero (by have := k3 rfl; omega)
    subst this
    exact ⟨[], ⟨none, c, rfl, k1, k2, k3, fun a ha => by cases ha⟩, hB⟩
  | some a =>
    refine ⟨(List.range bs.length).map fun j => if a.add j = ⟨b, off, none⟩ then x else bs.getD j 0, ⟨some a, c, by simp, by simpa using k1, k2, (fun h => by cases h), fun a' ha j u hu => ?_⟩, fun z hz => ?_⟩
    · cases ha
      have hj : j < bs.length := by have := (List.getElem?_eq_some_iff.1 hu).1; simpa using this
      have hold := k4 a rfl j (.int .u8 bs[j]) (by simp [List.getElem?_eq_getElem hj])
      have hg : bs.getD j 0 = bs[j] := by simp [List.getD, hj]
      simp only [List.map_map, List.getElem?_map, List.getElem?_range hj, Option.map_some, Option.some.injEq, Function.comp] at hu
      rw [← hu]
      by_cases he : a.add j = ⟨b, off, none⟩
      · rw [if_pos he, he]
        exact cell_setCell_same hc
      · rw [if_neg he, hg, cell_setCell_ne rfl he (spot_of_cell hold)]
        exact hold
    · obtain ⟨j, hj, rfl⟩ := List.mem_map.1 hz
      split
      · exact ⟨h0, h1⟩
      · exact hB.at j
theorem Lz.poke {g : Nat} {w : World} {v : Value} {ls : List (List Int)} {b off : Nat} {y : Int} (h : Lz g w v ls) (x : Int) (h0 : 0 ≤ x) (h1 : x ≤ 255) (hc : w.cell? ⟨b, off, none⟩ = some (.int .u8 y)) : ∃ ls', Lz g (w.setCell ⟨b, off, none⟩ (.int .u8 x)) v ls' := by
  obtain ⟨l, ⟨ao, c, e, k1, k2⟩, _, h3, h4⟩ := h
  subst e
  have hex : ∀ i (hi : i < l.length), ∃ cs, Sl (w.setCell ⟨b, off, none⟩ (.int .u8 x)) l[i].1 cs ∧ Bs cs := fun i hi => by
    obtain ⟨_, _, _, _, k5, k6⟩ := k2 i hi
    exact k5.poke k6 x h0 h1 hc
  have hf : ∃ f : Nat → List Int, ∀ i (hi : i < l.length), Sl (w.setCell ⟨b, off, none⟩ (.int .u8 x)) l[i].1 (f i) ∧ Bs (f i) := by
    refine ⟨fun i => if hi : i < l.length then (hex i hi).choose else [], fun i hi => ?_⟩
    simp only [hi, dif_pos]
    exact (hex i hi).choose_spec
  obtain ⟨f, hf⟩ := hf
  refine ⟨_, l.mapIdx (fun i y => (y.1, f i)), ⟨ao, c, by simp, by simpa using k1, fun i hi => ?_⟩, rfl, h3, fun y hy q hq => ?_⟩
  · have hi2 : i < l.length := by simpa using hi
    obtain ⟨b', off', e', k4, k5, k6⟩ := k2 i hi2
    have hv : l[i].1 ≠ .int .u8 y := fun e => by obtain ⟨_, _, e2, _⟩ := k5; rw [e] at e2; cases e2
    refine ⟨b', off', e', ?_, by simpa using (hf i hi2).1, by simpa using (hf i hi2).2⟩
    simp only [List.getElem_mapIdx]
    rw [cell_setCell_ne rfl (fun e2 => hv (by rw [e2, hc] at k4; exact (Option.some.inj k4).symm)) rfl]
    exact k4
  · obtain ⟨i, hi, rfl⟩ := List.getElem_of_mem hy
    have hi2 : i < l.length := by simpa using hi
    simp only [List.getElem_mapIdx] at hq
    exact h4 l[i] (List.getElem_mem hi2) q hq
/-- the first byte of the part i, where a byte may be put in. -/
theorem AccP.at {S : List Nat} {w wr : World} {ls : List (List Int)} {ao : Option Addr} {m c : Nat} (h : AccP S w ls (.slice ao m c) wr) (i : Nat) (hi : i < ls.length) (hne : 0 < (ls.getD i []).length) : ∃ gr b cx, ao = some ⟨gr, 0, none⟩ ∧ w.heap.size ≤ b ∧ wr.cell? ⟨gr, i, none⟩ = some (.slice (some ⟨b, 0, none⟩) (ls.getD i []).length cx) ∧ wr.cell? ⟨b, 0, none⟩ = some (.int .u8 ((ls.getD i []).getD 0 0)) ∧ wr.frozen? ⟨b, 0, none⟩ = false ∧ Row wr w.heap.size (.slice (some ⟨b, 0, none⟩) (ls.getD i []).length cx) (ls.getD i []) ∧ Bs (ls.getD i []) ∧ (∀ j, wr.frozen? ⟨gr, j, none⟩ = false) ∧ b ≠ gr := by
  obtain ⟨l, h1, h2, _⟩ := h
  subst h2
  have hi2 : i < l.length := by simpa using hi
  have hg : (l.map (·.2)).getD i [] = l[i].2 := by simp [List.getD, hi2]
  rw [hg] at hne ⊢
  obtain ⟨gr, e, hb, hlt, hn, hcs, hfr⟩ := h1.rowS.spot (by have := h1.1.len; rw [this]; simp; omega)
  subst e
  obtain ⟨k1, k2, k3⟩ := h1.2 l[i] (List.getElem_mem hi2)
  have hrow : wr.cell? ⟨gr, i, none⟩ = some l[i].1 := by
    have hm := h1.1.len
    subst hm
    have hr : wr.ownsRow w.heap.size 24 1 (.slice (some ⟨gr, 0, none⟩) (l.map (·.1)).length c) (l.map (·.1)).length (l.map (·.1)) := h1.1
    rw [hr.cellAt i (by simp; omega)]
    simp [hi2]
  obtain ⟨ax, cx, ev⟩ := k1.shape
  rw [ev] at k1 hrow k3
  obtain ⟨b, e2, hb2, _, hc2, hf2, _⟩ := k1.spot hne
  subst e2
  refine ⟨gr, b, cx, rfl, hb2, hrow, ?_, hf2 0, k1, k2, hfr, fun e => k3 b rfl (by rw [e]; rfl)⟩
  rw [hc2 0 hne]
  simp [List.getD, hne]
theorem AccP.lzoff {S : List Nat} {w wr w2 : World} {ls : List (List Int)} {v : Value} {q : Nat} (h : AccP S w ls v wr) (k : Kp [q] wr w2) (hlt : q < w.heap.size) (hl : ls.length ≤ 1000) (g : Nat) (hg : g < w.heap.size) : Lz g w2 v ls := by
  obtain ⟨l, h1, h2, h3⟩ := h
  have h1' := h1.off k hlt
  refine ⟨l, h1'.lists (by rw [← List.length_map (f := (·.2)), h2]; exact hl), h2, fun q hq => ?_, fun x hx q hq => ?_⟩
  · have := h1.1.own q hq; omega
  · have := (h1.2 x hx).1.own q hq; omega
theorem AccP.cap {S : List Nat} {w wr : World} {ls : List (List Int)} {ao : Option Addr} {m c : Nat} (h : AccP S w ls (.slice ao m c) wr) : m ≤ c := by
  obtain ⟨l, h1, _, _⟩ := h
  have hm := h1.1.len
  rcases h1.1.2 with ⟨e, h0⟩ | ⟨g, cap, cur, e, _, _, hc, _⟩
  · injection e with _ e2 e3; omega
  · injection e with _ e2 e3; omega
theorem Lz.take {g : Nat} {w : World} {ao : Option Addr} {n c : Nat} {ls : List (List Int)} (h : Lz g w (.slice ao n c) ls) {k : Nat} (hk : k ≤ ls.length) : Lz g w (.slice ao k c) (ls.take k) := by
  obtain ⟨l, h1, h2, h3, h4⟩ := h
  exact ⟨l.take k, h1.take (by rw [← List.length_map (f := (·.2)), h2]; exact hk), by rw [List.map_take, h2], (by cases ao <;> exact h3), fun x hx => h4 x (List.mem_of_mem_take hx)⟩
theorem run_cut (ao : Option Addr) (n c k : Nat) (w : World) (h1 : k ≤ n) (h2 : n ≤ c) (h3 : ao = none → c = 0) : (Instr.sliceAt 31 (.slice ao n c) none (some (.int .i64 k)) none).run Tryd.prog w = .ok (.slice ao k c) w := by
  have e3 : (k : Int) ≤ (c : Int) := by omega
  cases ao with
  | none =>
    have := h3 rfl
    have hk : k = 0 := by omega
    subst hk
    simp [Instr.sliceAt, Sem.run_bind, go_sem]
  | some a =>
    simp [Instr.sliceAt, Sem.run_bind, go_sem, e3]
theorem run_cut1 (ao : Option Addr) (n c k : Nat) (w : World) (h1 : k ≤ n) (h2 : n ≤ c) (h3 : ao = none → c = 0) : (Instr.sliceAt 24 (.slice ao n c) none (some (.int .i64 k)) none).run Tryd.prog w = .ok (.slice ao k c) w := by
  have e3 : (k : Int) ≤ (c : Int) := by omega
  cases ao with
  | none =>
    have := h3 rfl
    have hk : k = 0 := by omega
    subst hk
    simp [Instr.sliceAt, Sem.run_bind, go_sem]
  | some a =>
    simp [Instr.sliceAt, Sem.run_bind, go_sem, e3]
/-- the part i is cut to its first bytes. -/
theorem AccP.half {S : List Nat} {w wr w2 : World} {ls : List (List Int)} {gr m c b cx : Nat} (h : AccP S w ls (.slice (some ⟨gr, 0, none⟩) m c) wr) (i : Nat) (k : Kp [] wr w2) (hR : Row wr w.heap.size (.slice (some ⟨b, 0, none⟩) 32 cx) (ls.getD i [])) (hB : Bs (ls.getD i [])) (hne : b ≠ gr) (hl : ls.length ≤ 1000) (g : Nat) (hg : g < w.heap.size) :
    Lz g (w2.setCell ⟨gr, i, none⟩ (.slice (some ⟨b, 0, none⟩) 16 cx)) (.slice (some ⟨gr, 0, none⟩) m c) (ls.set i ((ls.getD i []).take 16)) := by
  obtain ⟨l, h1, h2, h3⟩ := h
  have hlen : (ls.getD i []).length = 32 := hR.len.symm
  have hS := ((hR.sl.kept k (by simp)).take 16 (by omega))
  have hRS := ((h1.kept k).rowS).set i (.slice (some ⟨b, 0, none⟩) 16 cx, (ls.getD i []).take 16) hS (hB.take _) (fun e => absurd (by simpa [Value.ownBlock] using e) hne)
  refine ⟨_, hRS.lists (by rw [List.length_set, ← List.length_map (f := (·.2)), h2]; exact hl), by rw [List.map_set, h2], fun q hq => ?_, fun x hx q hq => ?_⟩
  · have := h1.1.own q hq; omega
  · rcases List.mem_or_eq_of_mem_set hx with hx | rfl
    · have := (h1.2 x hx).1.own q hq; omega
    · have := hR.own q hq; omega
/-- The value is a number below n. -/
def InT (n : Nat) : Tell := fun v _ => ∃ x : Nat, v = .int .i64 x ∧ x < n
theorem stable_in (n : Nat) : Tell.stable (InT n) := fun _ _ _ _ h => h
end Go.Proofs.YtdioaohejoflcaaDoor

/-
  The contract of the law package's turned, over a signature of the right form.
-/
namespace Go.Proofs.YtdioaohejoflcaaDoor
open Go.RowKit
open Go.Proofs

/-- what turned tells of a signature. -/
def Trnd (w : World) (ps : List (List Int)) (how : Nat) (tn : Int) (v : Value) (w' : World) : Prop :=
  ∃ i' ps' qs', SigV w' v i' ps' qs' ∧ (-9223372036854775808 ≤ i' ∧ i' ≤ 9223372036854775807) ∧ (how = 1 → tn ≠ 0 → ps' ≠ ps) ∧ Kp [] w w'
theorem xor64_bd (x y : Int) : -9223372036854775808 ≤ bits .xor .i64 x y ∧ bits .xor .i64 x y ≤ 9223372036854775807 := by
  show -9223372036854775808 ≤ IntKind.i64.wrap _ ∧ IntKind.i64.wrap _ ≤ 9223372036854775807
  simp [IntKind.wrap, IntKind.signed, IntKind.bits]
  omega
theorem xor_ne (x y : Int) (hx : 0 ≤ x ∧ x ≤ 255) (hy : 0 ≤ y ∧ y ≤ 255) (h : y ≠ 0) : bits .xor .u8 x y ≠ x := by
  obtain ⟨m, rfl⟩ := Int.eq_ofNat_of_zero_le hx.1
  obtain ⟨n, rfl⟩ := Int.eq_ofNat_of_zero_le hy.1
  have hall : ∀ m ∈ List.range 256, ∀ n ∈ List.range 256, n ≠ 0 → bits .xor .u8 (m : Int) (n : Int) ≠ (m : Int) := by decide +kernel
  exact hall m (by simp; omega) n (by simp; omega) (by omega)
/-- the end of it: what was made is handed out. -/
theorem trnd_end {w wf w9 : World} {i' : Int} {ps ps' qs' : List (List Int)} {how : Nat} {tn : Int} {g8 : Nat} {vp vq : Value} (hP : Lz g8 wf vp ps') (hQ : Lz g8 wf vq qs') (hi : -9223372036854775808 ≤ i' ∧ i' ≤ 9223372036854775807) (hn : how = 1 → tn ≠ 0 → ps' ≠ ps) (k : Kp [g8] wf w9) (kw : Kp [] w wf) (hg : w.heap.size ≤ g8) : Trnd w ps how tn (.agg #[.int .i64 i', vp, vq]) w9 := by
  obtain ⟨l, h1, h2, h3, h4⟩ := hP.off k
  obtain ⟨m, k1, k2, k3, k4⟩ := hQ.off k
  exact ⟨i', ps', qs', ⟨vp, vq, l, m, rfl, h1, h2, k1, k2⟩, hi, hn, kw.then k (fun j hj => .inr (by simp at hj; omega))⟩

set_option maxRecDepth 100000 in
set_option maxHeartbeats 16000000 in
theorem turned_any (v : Value) (i : Int) (ps qs : List (List Int)) (how : Nat) (ax tn : Int) (w : World) (hV : SigV w v i ps qs) (hi : -9223372036854775808 ≤ i ∧ i ≤ 9223372036854775807) (hpl : ps.length = 64) (hp32 : ∀ x ∈ ps, x.length = 32) (hql : qs.length = 4) (hq32 : ∀ x ∈ qs, x.length = 32) (hhow : how ≤ 8) (hax : -9223372036854775808 ≤ ax ∧ ax ≤ 9223372036854775807) (htn : 0 ≤ tn ∧ tn ≤ 255) :
    Calls Tryd.prog 18 #[v, .int .i64 how, .int .i64 ax, .int .u8 tn] w fun e w' => ∃ v', e = .returned v' ∧ Trnd w ps how tn v' w' := by
  obtain ⟨ap, np, cp, aq, nq, cq, lp, lq, rfl, hP, hp, hQ, hq, hnp, hnq⟩ := hV.shape
  rw [hpl] at hnp
  rw [hql] at hnq
  subst hnp
  subst hnq
  have HP := hide hP
  have HQ := hide hQ
  have Hp := hide hp
  have Hq := hide hq
  have HPL := hide hpl
  have HQL := hide hql
  have HP32 := hide hp32
  have HQ32 := hide hq32
  have HAX := hide hax
  have HTN := hide htn
  have HI := hide hi
  obtain ⟨o1, ho1⟩ : ∃ o : Obj, o = (.cells #[.int .i64 i, .slice ap 64 cp, .slice aq 4 cq] 33) := ⟨_, rfl⟩
  obtain ⟨z, hz⟩ : ∃ o : Obj, o = (.cells #[.int .i64 0, .slice none 0 0, .slice none 0 0] 33) := ⟨_, rfl⟩
  have K2 : Kp [] w (((w.alloc o1).alloc z).alloc z) := (((Kp.refl [] w).alloc o1).alloc z).alloc z
  have hsz : ((w.alloc o1).alloc z).heap.size = w.heap.size + 1 + 1 := by simp
  have Ga : (((w.alloc o1).alloc z).alloc z).heap[w.heap.size + 1 + 1]? = some z := by rw [← hsz]; exact heap_alloc_new _ z
  have Gb : (((w.alloc o1).alloc z).alloc z).heap[w.heap.size]? = some o1 := (((Kp.refl [] ((w.alloc o1).alloc z)).alloc z)).heap (heap_alloc2_old w o1 z) (by simp)
  have Gc : (((w.alloc o1).alloc z).alloc z).heap[w.heap.size + 1]? = some z := (((Kp.refl [] ((w.alloc o1).alloc z)).alloc z)).heap (heap_alloc2_new w o1 z) (by simp)
  rw [ho1] at K2 Ga Gb Gc
  rw [hz] at K2 Ga Gb Gc
  have HK2 := hide K2
  have HGb := hide Gb
  have HGc := hide Gc
  clear hP hQ hp hq hpl hql hp32 hq32 hax htn hi hV ho1 hz hsz K2 Gb Gc
  go_enter Tryd.func18, Tryd.ntmps18
  go_wp2_with (refine wpList_store_sig rfl (.tmp 9) (.tmp 16) rfl (w.heap.size + 1 + 1) rfl _ _ _ _ _ _ Ga rfl ⟨rfl, rfl, rfl⟩ ?_; intro w3 G3 K3)
  obtain ⟨g9, h9⟩ : ∃ g, g = w.heap.size + 1 + 1 := ⟨_, rfl⟩
  rw [← h9] at G3 K3 ⊢
  obtain ⟨g8, h8⟩ : ∃ g, g = w.heap.size + 1 := ⟨_, rfl⟩
  rw [← h8] at HGc ⊢
  obtain ⟨g4, h4⟩ : ∃ g, g = w.heap.size := ⟨_, rfl⟩
  rw [← h4] at HGb ⊢
  have H9 := hide h9
  have H8 := hide h8
  have H4 := hide h4
  have HG3 := hide G3
  have HB3 := hide (K3.heap (unhide HGb) (by simp; omega))
  have HZ3 := hide (K3.heap (unhide HGc) (by simp; omega))
  have HK3 : Hid (Kp [] w w3) := (unhide HK2).then K3 (fun i hi => .inr (by simp at hi; omega))
  have hs3 : g9 < w3.heap.size := (Array.getElem?_eq_some_iff.1 G3).1
  clear G3 K3 Ga h9 h8 h4 HGb HGc HK2
  go_wp2_with fail
  go_loopw [10] (fun j wr => ∃ (k m cc : Nat) (ao : Option Addr), k ≤ 64 ∧ j = .int .i64 k ∧ AccP [g9] w3 (ps.take k) (.slice ao m cc) wr ∧ wr.heap[g9]? = some (.cells #[.int .i64 i, .slice ao m cc, .slice none 0 0] 33 (0, 0))) (fun j _ => 64 - (intOf j).toNat)
  case atStart => exact ⟨0, 0, 0, none, by omega, rfl, ⟨[], ⟨⟨rfl, .inl ⟨rfl, rfl⟩⟩, fun x hx => by cases hx⟩, rfl, Kp.refl _ _⟩, unhide HG3⟩
  case round =>
    clear HG3
    obtain ⟨k, m, cc, ao, hk, rfl, Ar, Gr⟩ := hrel
    have HA := hide Ar
    have HGr := hide Gr
    have HKr : Hid (Kp [] w wr) := (unhide HK3).then Ar.kp (fun i hi => .inr (by have := unhide H9; simp at hi; omega))
    have hc28 : wr.cell? ⟨g4, 1, none⟩ = some (.slice ap 64 cp) := by rw [cell_of_row wr g4 1 _ _ _ (Ar.kp.heap (unhide HB3) (by have := unhide H9; have := unhide H4; simp; omega))]; rfl
    clear Ar Gr
    by_cases hlt : k < 64
    · have hlt2 : (k : Int) < 64 := by omega
      have hkl : k < ps.length := by have := unhide HPL; omega
      obtain ⟨b, off, ax', nx, cx, rfl, hcx, hSx, hBx⟩ := lists_at (unhide HP) (unhide Hp) k hkl
      have h32 : (ps.getD k []).length = 32 := unhide HP32 _ (getD_mem hkl)
      have hE : ps.take (k + 1) = ps.take k ++ [ps.getD k []] := by rw [List.take_succ_eq_append_getElem hkl]; simp [List.getD, hkl]
      obtain ⟨X, hX⟩ : ∃ X, X = ps.getD k [] := ⟨_, rfl⟩
      rw [← hX] at hSx hBx h32 hE
      have HE := hide hE
      have HBx := hide hBx
      have H32 := hide h32
      have HLN : Hid ((ps.take k).length ≤ 1000000) := hide (by rw [List.length_take]; omega)
      have HSx := hide (hSx.kept (unhide HKr) (by simp))
      have hc31 : wr.cell? ⟨b, off + k, none⟩ = some (.slice ax' nx cx) := (unhide HKr).cell hcx (by simp)
      have hc25 : wr.cell? ⟨g9, 1, none⟩ = some (.slice ao m cc) := by rw [cell_of_row wr g9 1 _ _ _ (unhide HGr)]; rfl
      have al : ∀ (a : Addr) (u : Value), wr.cell? a = some u → ∀ o, (wr.alloc o).cell? a = some u := fun a u h o => (World.cell?_alloc_lt _ _ _ (by exact World.block_lt_of_cell? _ _ h)).trans h
      have e25 := al _ _ hc25
      have e28 := al _ _ hc28
      have e31 := al _ _ hc31
      have hg9r : g9 < wr.heap.size := (Array.getElem?_eq_some_iff.1 (unhide HGr)).1
      clear hcx hSx hBx h32 hE hX al
      go_wp2_with fail
      go_region_law (first
        | (refine step_append_row (by rfl) (.tmp 26) (.tmp 31) (by rfl) wr.heap.size (.slice (some ⟨wr.heap.size, 0, none⟩) 0 0) [] (by rfl) ((row_of_block (bs := []) (n := 0) (Nat.le_refl _) (heap_alloc_new wr _) rfl (by simp [maxLen])).kept (kp_drew _) (by simp)) (.slice ax' nx cx) X (by rfl) ((unhide HSx).kept (((Kp.refl [] wr).alloc _).drew) (by simp)) (by have := unhide H32; simp; omega) (by simp) ?_; intro a2 m2 c2 w2 R2 S2; have K2 : Kp [] wr w2 := ((((Kp.refl [] wr).alloc _).drew).then S2.1 (by simp [Value.ownBlock])); have hcy : w2.cell? ⟨g9, 1, none⟩ = some (.slice ao m cc) := K2.cell hc25 (by simp); have ey : ∀ o, (w2.alloc o).cell? ⟨g9, 1, none⟩ = some (.slice ao m cc) := (fun o => (World.cell?_alloc_lt _ _ _ (by exact World.block_lt_of_cell? _ _ hcy)).trans hcy); have HR2 := hide R2; have HK2 := hide K2; clear R2 S2 K2)
        | (refine step_accp (by rfl) (.tmp 25) (.tmp 33) (by rfl) (.slice ao m cc) _ (by rfl) (unhide HA) (unhide HLN) (.slice a2 m2 c2) ([] ++ X) (unhide HK2) (unhide HR2) (unhide HBx) w2.heap.size (by rfl) (by exact cell_of_one (heap_alloc_new w2 _)) ((Kp.refl [] w2).alloc _) ?_; intro ao5 m5 c5 w5 A5 S5; have G5 : w5.heap[g9]? = some _ := S5.1.heap (unhide HGr) (fun hm => by have := ((unhide HA).own g9 (by simpa using hm)).1; omega); have hc5 : w5.cell? ⟨g9, 1, none⟩ = some (.slice ao m cc) := (by rw [cell_of_row w5 g9 1 _ _ _ G5]; rfl); have hf5 : w5.frozen? ⟨g9, 1, none⟩ = false := frozen_of_row w5 g9 1 _ _ G5))
      all_goals
        have G6 := heap_setCell_same w5 g9 1 _ _ (.slice ao5 m5 c5) G5
        have A6 := A5.off (setCell_kp w5 g9 1 (.slice ao5 m5 c5)) (by simp) hs3
        rw [List.nil_append] at A6
        have HG6 := hide G6
        have HA6 := hide A6
        clear A5 S5 G5 G6 A6 hc25 hc28 hc31 e25 e28 e31 hcy ey hc5 hf5 HR2 HK2 HSx
        go_wp2_with fail
        go_roundw
        case rel => exact ⟨k + 1, m5, c5, ao5, by omega, by go_num, by rw [unhide HE]; exact unhide HA6, unhide HG6⟩
        case measure => simp [intOf]; omega
    · have hkn : k = 64 := by omega
      have hlt2 : ¬ (k : Int) < 64 := by omega
      have hT : ps.take k = ps := List.take_of_length_le (by have := unhide HPL; omega)
      rw [hT] at HA
      clear hkn hT
      obtain ⟨w5, hw5⟩ : ∃ w5, w5 = wr := ⟨_, rfl⟩
      subst hw5
      obtain ⟨pa, pm, pc, e5⟩ : ∃ a5 m5 c5, (Value.slice a5 m5 c5) = .slice ao m cc := ⟨_, _, _, rfl⟩
      injection e5 with f1 f2 f3
      subst f1
      subst f2
      subst f3
      have hpm : pm = 64 := by rw [(unhide HA).len]; exact unhide HPL
      subst hpm
      have HAP := hide (unhide HA)
      have HPX5 : Hid (∃ l, Lists w5 (.slice pa 64 pc) l ∧ l.map (·.2) = ps ∧ ∀ q, ((Value.slice pa 64 pc).ownBlock = some q ∨ ∃ x ∈ l, x.1.ownBlock = some q) → w3.heap.size ≤ q ∧ q < w5.heap.size) := by
        obtain ⟨l, p1, p2, _⟩ := unhide HA
        refine ⟨l, p1.lists (by rw [← List.length_map (f := (·.2)), p2]; have := unhide HPL; omega), p2, fun q hq => ?_⟩
        rcases hq with hq | ⟨x, hx, hq⟩
        · exact ⟨p1.1.own q hq, p1.1.lt hq⟩
        · exact ⟨(p1.2 x hx).1.own q hq, (p1.2 x hx).1.lt hq⟩
      have HK5 := hide (unhide HKr)
      have hs5 : g9 < w5.heap.size := (Array.getElem?_eq_some_iff.1 (unhide HGr)).1
      have HG5 := hide (unhide HGr)
      have HB5 := hide ((unhide HA).kp.heap (unhide HB3) (by have := unhide H9; have := unhide H4; simp; omega))
      have HZ5 := hide ((unhide HA).kp.heap (unhide HZ3) (by have := unhide H9; have := unhide H8; simp; omega))
      clear HA HGr HB3 HZ3 HKr
      go_wp2_with fail
      go_loopw [11] (fun j wr => ∃ (k m cc : Nat) (ao : Option Addr), k ≤ 4 ∧ j = .int .i64 k ∧ AccP [g9] w5 (qs.take k) (.slice ao m cc) wr ∧ wr.heap[g9]? = some (.cells #[.int .i64 i, .slice pa 64 pc, .slice ao m cc] 33 (0, 0))) (fun j _ => 4 - (intOf j).toNat)
      case atStart => exact ⟨0, 0, 0, none, by omega, rfl, ⟨[], ⟨⟨rfl, .inl ⟨rfl, rfl⟩⟩, fun x hx => by cases hx⟩, rfl, Kp.refl _ _⟩, unhide HG5⟩
      case round =>
        clear HG5
        obtain ⟨k, m, cc, ao, hk, rfl, Ar, Gr⟩ := hrel
        have HA := hide Ar
        have HGr := hide Gr
        have HKr : Hid (Kp [] w wr) := (unhide HK5).then Ar.kp (fun i hi => .inr (by have := unhide H9; simp at hi; omega))
        have hc28 : wr.cell? ⟨g4, 2, none⟩ = some (.slice aq 4 cq) := by rw [cell_of_row wr g4 2 _ _ _ (Ar.kp.heap (unhide HB5) (by have := unhide H9; have := unhide H4; simp; omega))]; rfl
        clear Ar Gr
        by_cases hlt : k < 4
        · have hlt2 : (k : Int) < 4 := by omega
          have hkl : k < qs.length := by have := unhide HQL; omega
          obtain ⟨b, off, ax', nx, cx, rfl, hcx, hSx, hBx⟩ := lists_at (unhide HQ) (unhide Hq) k hkl
          have h32 : (qs.getD k []).length = 32 := unhide HQ32 _ (getD_mem hkl)
          have hE : qs.take (k + 1) = qs.take k ++ [qs.getD k []] := by rw [List.take_succ_eq_append_getElem hkl]; simp [List.getD, hkl]
          obtain ⟨X, hX⟩ : ∃ X, X = qs.getD k [] := ⟨_, rfl⟩
          rw [← hX] at hSx hBx h32 hE
          have HE := hide hE
          have HBx := hide hBx
          have H32 := hide h32
          have HLN : Hid ((qs.take k).length ≤ 1000000) := hide (by rw [List.length_take]; omega)
          have HSx := hide (hSx.kept (unhide HKr) (by simp))
          have hc31 : wr.cell? ⟨b, off + k, none⟩ = some (.slice ax' nx cx) := (unhide HKr).cell hcx (by simp)
          have hc25 : wr.cell? ⟨g9, 2, none⟩ = some (.slice ao m cc) := by rw [cell_of_row wr g9 2 _ _ _ (unhide HGr)]; rfl
          have al : ∀ (a : Addr) (u : Value), wr.cell? a = some u → ∀ o, (wr.alloc o).cell? a = some u := fun a u h o => (World.cell?_alloc_lt _ _ _ (by exact World.block_lt_of_cell? _ _ h)).trans h
          have e25 := al _ _ hc25
          have e28 := al _ _ hc28
          have e31 := al _ _ hc31
          have hg9r : g9 < wr.heap.size := (Array.getElem?_eq_some_iff.1 (unhide HGr)).1
          clear hcx hSx hBx h32 hE hX al
          go_wp2_with fail
          go_region_law (first
            | (refine step_append_row (by rfl) (.tmp 45) (.tmp 50) (by rfl) wr.heap.size (.slice (some ⟨wr.heap.size, 0, none⟩) 0 0) [] (by rfl) ((row_of_block (bs := []) (n := 0) (Nat.le_refl _) (heap_alloc_new wr _) rfl (by simp [maxLen])).kept (kp_drew _) (by simp)) (.slice ax' nx cx) X (by rfl) ((unhide HSx).kept (((Kp.refl [] wr).alloc _).drew) (by simp)) (by have := unhide H32; simp; omega) (by simp) ?_; intro a2 m2 c2 w2 R2 S2; have K2 : Kp [] wr w2 := ((((Kp.refl [] wr).alloc _).drew).then S2.1 (by simp [Value.ownBlock])); have hcy : w2.cell? ⟨g9, 2, none⟩ = some (.slice ao m cc) := K2.cell hc25 (by simp); have ey : ∀ o, (w2.alloc o).cell? ⟨g9, 2, none⟩ = some (.slice ao m cc) := (fun o => (World.cell?_alloc_lt _ _ _ (by exact World.block_lt_of_cell? _ _ hcy)).trans hcy); have HR2 := hide R2; have HK2 := hide K2; clear R2 S2 K2)
            | (refine step_accp (by rfl) (.tmp 44) (.tmp 52) (by rfl) (.slice ao m cc) _ (by rfl) (unhide HA) (unhide HLN) (.slice a2 m2 c2) ([] ++ X) (unhide HK2) (unhide HR2) (unhide HBx) w2.heap.size (by rfl) (by exact cell_of_one (heap_alloc_new w2 _)) ((Kp.refl [] w2).alloc _) ?_; intro ao5 m5 c5 w5 A5 S5; have G5 : w5.heap[g9]? = some _ := S5.1.heap (unhide HGr) (fun hm => by have := ((unhide HA).own g9 (by simpa using hm)).1; omega); have hc5 : w5.cell? ⟨g9, 2, none⟩ = some (.slice ao m cc) := (by rw [cell_of_row w5 g9 2 _ _ _ G5]; rfl); have hf5 : w5.frozen? ⟨g9, 2, none⟩ = false := frozen_of_row w5 g9 2 _ _ G5))
          all_goals
            have G6 := heap_setCell_same w5 g9 2 _ _ (.slice ao5 m5 c5) G5
            have A6 := A5.off (setCell_kp w5 g9 2 (.slice ao5 m5 c5)) (by simp) hs5
            rw [List.nil_append] at A6
            have HG6 := hide G6
            have HA6 := hide A6
            clear A5 S5 G5 G6 A6 hc25 hc28 hc31 e25 e28 e31 hcy ey hc5 hf5 HR2 HK2 HSx
            go_wp2_with fail
            go_roundw
            case rel => exact ⟨k + 1, m5, c5, ao5, by omega, by go_num, by rw [unhide HE]; exact unhide HA6, unhide HG6⟩
            case measure => simp [intOf]; omega
        · have hkn : k = 4 := by omega
          have hlt2 : ¬ (k : Int) < 4 := by omega
          have hT : qs.take k = qs := List.take_of_length_le (by have := unhide HQL; omega)
          rw [hT] at HA
          clear hkn hT
          obtain ⟨w7, hw7⟩ : ∃ w7, w7 = wr := ⟨_, rfl⟩
          subst hw7
          obtain ⟨qa, qm, qc, e7⟩ : ∃ a5 m5 c5, (Value.slice a5 m5 c5) = .slice ao m cc := ⟨_, _, _, rfl⟩
          injection e7 with f1 f2 f3
          subst f1
          subst f2
          subst f3
          have hqm : qm = 4 := by rw [(unhide HA).len]; exact unhide HQL
          subst hqm
          have HAQ := hide (unhide HA)
          have HAP7 := hide ((unhide HAP).off (unhide HA).kp (by simp) hs3)
          have HPX7 : Hid (∃ l, Lists w7 (.slice pa 64 pc) l ∧ l.map (·.2) = ps ∧ ∀ q, ((Value.slice pa 64 pc).ownBlock = some q ∨ ∃ x ∈ l, x.1.ownBlock = some q) → w3.heap.size ≤ q ∧ q < w5.heap.size) := by
            obtain ⟨l, p1, p2, p3⟩ := unhide HPX5
            exact ⟨l, p1.off (unhide HA).kp (fun q hq => by have := p3 q (.inl hq); simp; omega) (fun y hy q hq => by have := p3 q (.inr ⟨y, hy, hq⟩); simp; omega), p2, p3⟩
          have HK7 := hide (unhide HKr)
          have HG7 := hide (unhide HGr)
          have HZ7 := hide ((unhide HA).kp.heap (unhide HZ5) (by have := unhide H9; have := unhide H8; simp; omega))
          have d1 : w7.cell? ⟨g9, 1, none⟩ = some (.slice pa 64 pc) := by rw [cell_of_row w7 g9 1 _ _ _ (unhide HGr)]; rfl
          have d2 : w7.cell? ⟨g9, 2, none⟩ = some (.slice qa 4 qc) := by rw [cell_of_row w7 g9 2 _ _ _ (unhide HGr)]; rfl
          have HC1 : Hid (∀ w', Kp [] w7.drew w' → w'.cell? ⟨g9, 1, none⟩ = some (.slice pa 64 pc)) := fun w' k' => ((kp_drew w7).trans k').cell d1 (by simp)
          have HC2 : Hid (∀ w', Kp [] w7.drew w' → w'.cell? ⟨g9, 2, none⟩ = some (.slice qa 4 qc)) := fun w' k' => ((kp_drew w7).trans k').cell d2 (by simp)
          clear HA HGr HKr HAP HZ5 HB5 HK5 HPX5
          go_wp2_with fail
          refine region_grow Tryd.mixed [Is (.int .i64 ax), Is (.pointer (some ⟨g9, 1, none⟩)), Is (.slice pa 64 pc), Is (.int .i64 64), Is (.int .i64 63), InT 64, Is (.int .i64 ax), Is (.pointer (some ⟨g9, 2, none⟩)), Is (.slice qa 4 qc), Is (.int .i64 4), Is (.int .i64 3), InT 4, InT 64, InT 4] [[(2, none)], [(9, none)], [(67, some 1)], [(68, some 2)], [(69, some 3)], [(66, some 0), (70, some 4)], [(2, none)], [(9, none)], [(73, some 7)], [(74, some 8)], [(75, some 9)], [(72, some 6), (76, some 10)], [(71, some 5)], [(77, some 11)]] (by kernel_rfl) ?_ ?_ ?_
          · simp only [List.mem_cons, List.not_mem_nil, or_false]
            intro R hR
            rcases hR with rfl | rfl | rfl | rfl | rfl | rfl | rfl | rfl | rfl | rfl | rfl | rfl | rfl | rfl <;> first | exact stable_is _ | exact stable_in _
          · refine steps_cons (fun a w hk hn => ?_) ?_
            · have h2 : a.eval (.tmp 2) = .int .i64 ax := hn.1
              clear hn
              refine wants_plain rfl ?_
              exact grown_move (.tmp 2) rfl h2
            refine steps_cons (fun a w hk hn => ?_) ?_
            · have h9 : a.eval (.tmp 9) = .pointer (some ⟨g9, 0, none⟩) := hn.1
              clear hn
              refine wants_plain rfl ?_
              refine grown_run (v := .pointer (some ⟨g9, 1, none⟩)) ?_ (Kp.refl _ _) rfl
              obtain ⟨ρ, hρ, hc, hf, hg⟩ := eval_is a
              rw [hρ] at h9 ⊢
              simp [go_sem, h9]
            refine steps_cons (fun a w hk hn => ?_) ?_
            · have h67 : a.eval (.tmp 67) = .pointer (some ⟨g9, 1, none⟩) := hn.1
              clear hn
              refine wants_plain rfl ?_
              refine grown_run (v := .slice pa 64 pc) ?_ (Kp.refl _ _) rfl
              have hcell := unhide HC1 w hk
              obtain ⟨ρ, hρ, hc, hf, hg⟩ := eval_is a
              rw [hρ] at h67 ⊢
              simp [go_sem, h67, hcell]
            refine steps_cons (fun a w hk hn => ?_) ?_
            · have h68 : a.eval (.tmp 68) = .slice pa 64 pc := hn.1
              clear hn
              refine wants_plain rfl ?_
              refine grown_run (v := .int .i64 64) ?_ (Kp.refl _ _) rfl
              obtain ⟨ρ, hρ, hc, hf, hg⟩ := eval_is a
              rw [hρ] at h68 ⊢
              simp [go_sem, h68]
            refine steps_cons (fun a w hk hn => ?_) ?_
            · have h69 : a.eval (.tmp 69) = .int .i64 64 := hn.1
              clear hn
              refine wants_plain rfl ?_
              refine grown_run (v := .int .i64 63) ?_ (Kp.refl _ _) rfl
              obtain ⟨ρ, hρ, hc, hf, hg⟩ := eval_is a
              rw [hρ] at h69 ⊢
              simp [go_sem, hc, h69]
              rfl
            refine steps_cons (fun a w hk hn => ?_) ?_
            · have h66 : a.eval (.tmp 66) = .int .i64 ax := hn.1
              have h70 : a.eval (.tmp 70) = .int .i64 63 := hn.2.1
              clear hn
              refine wants_plain rfl ?_
              refine grown_call (f := 23) rfl Tryd.func23 (by kernel_rfl) (by kernel_rfl) ?_
              simp only [List.map_toArray, List.map_cons, List.map_nil, h66, h70]
              refine (within_any ax 0 63 w (by omega) (by omega) (by omega) (unhide HAX)).mono ?_
              rintro e w' ⟨x, rfl, h0, h1, hw⟩
              subst w'
              obtain ⟨y, rfl⟩ := Int.eq_ofNat_of_zero_le h0
              exact ⟨_, rfl, Kp.refl _ _, y, rfl, by omega⟩
            refine steps_cons (fun a w hk hn => ?_) ?_
            · have h2 : a.eval (.tmp 2) = .int .i64 ax := hn.1
              clear hn
              refine wants_plain rfl ?_
              exact grown_move (.tmp 2) rfl h2
            refine steps_cons (fun a w hk hn => ?_) ?_
            · have h9 : a.eval (.tmp 9) = .pointer (some ⟨g9, 0, none⟩) := hn.1
              clear hn
              refine wants_plain rfl ?_
              refine grown_run (v := .pointer (some ⟨g9, 2, none⟩)) ?_ (Kp.refl _ _) rfl
              obtain ⟨ρ, hρ, hc, hf, hg⟩ := eval_is a
              rw [hρ] at h9 ⊢
              simp [go_sem, h9]
            refine steps_cons (fun a w hk hn => ?_) ?_
            · have h73 : a.eval (.tmp 73) = .pointer (some ⟨g9, 2, none⟩) := hn.1
              clear hn
              refine wants_plain rfl ?_
              refine grown_run (v := .slice qa 4 qc) ?_ (Kp.refl _ _) rfl
              have hcell := unhide HC2 w hk
              obtain ⟨ρ, hρ, hc, hf, hg⟩ := eval_is a
              rw [hρ] at h73 ⊢
              simp [go_sem, h73, hcell]
            refine steps_cons (fun a w hk hn => ?_) ?_
            · have h74 : a.eval (.tmp 74) = .slice qa 4 qc := hn.1
              clear hn
              refine wants_plain rfl ?_
              refine grown_run (v := .int .i64 4) ?_ (Kp.refl _ _) rfl
              obtain ⟨ρ, hρ, hc, hf, hg⟩ := eval_is a
              rw [hρ] at h74 ⊢
              simp [go_sem, h74]
            refine steps_cons (fun a w hk hn => ?_) ?_
            · have h75 : a.eval (.tmp 75) = .int .i64 4 := hn.1
              clear hn
              refine wants_plain rfl ?_
              refine grown_run (v := .int .i64 3) ?_ (Kp.refl _ _) rfl
              obtain ⟨ρ, hρ, hc, hf, hg⟩ := eval_is a
              rw [hρ] at h75 ⊢
              simp [go_sem, hc, h75]
              rfl
            refine steps_cons (fun a w hk hn => ?_) ?_
            · have h72 : a.eval (.tmp 72) = .int .i64 ax := hn.1
              have h76 : a.eval (.tmp 76) = .int .i64 3 := hn.2.1
              clear hn
              refine wants_plain rfl ?_
              refine grown_call (f := 23) rfl Tryd.func23 (by kernel_rfl) (by kernel_rfl) ?_
              simp only [List.map_toArray, List.map_cons, List.map_nil, h72, h76]
              refine (within_any ax 0 3 w (by omega) (by omega) (by omega) (unhide HAX)).mono ?_
              rintro e w' ⟨x, rfl, h0, h1, hw⟩
              subst w'
              obtain ⟨y, rfl⟩ := Int.eq_ofNat_of_zero_le h0
              exact ⟨_, rfl, Kp.refl _ _, y, rfl, by omega⟩
            refine steps_cons (fun a w hk hn => ?_) ?_
            · have h71 : (InT 64) (a.eval (.tmp 71)) w := hn.1
              clear hn
              refine wants_plain rfl ?_
              exact grown_assign (.tmp 71) rfl h71
            refine steps_cons (fun a w hk hn => ?_) ?_
            · have h77 : (InT 4) (a.eval (.tmp 77)) w := hn.1
              clear hn
              refine wants_plain rfl ?_
              exact grown_assign (.tmp 77) rfl h77
            exact trivial
          intro W1 hkW1
          rintro _ rfl
          rintro _ rfl
          rintro _ rfl
          rintro _ rfl
          rintro _ rfl
          intro v71 h71
          rintro _ rfl
          rintro _ rfl
          rintro _ rfl
          rintro _ rfl
          rintro _ rfl
          intro v77 h77
          intro v12 h12
          intro v13 h13
          refine fin_nil ?_
          simp only [Act.put, List.set_cons_zero, List.set_cons_succ, List.setIfInBounds_toArray]
          obtain ⟨pi, e12, hpi⟩ := h12
          obtain ⟨ki, e13, hki⟩ := h13
          subst e12
          subst e13
          have kkW := (kp_drew w7).trans hkW1
          have HAP1 := hide ((unhide HAP7).mid kkW)
          have HAQ1 := hide ((unhide HAQ).mid kkW)
          have HPXW : Hid (∃ l, Lists W1 (.slice pa 64 pc) l ∧ l.map (·.2) = ps ∧ ∀ q, ((Value.slice pa 64 pc).ownBlock = some q ∨ ∃ x ∈ l, x.1.ownBlock = some q) → w3.heap.size ≤ q ∧ q < w5.heap.size) := by
            obtain ⟨l, p1, p2, p3⟩ := unhide HPX7
            exact ⟨l, p1.kept kkW, p2, p3⟩
          have HKW := hide ((unhide HK7).trans kkW)
          have HGW := hide (kkW.heap (unhide HG7) (by simp))
          have HZW := hide (kkW.heap (unhide HZ7) (by simp))
          have HLP := hide ((unhide HAP1).lz (by have := unhide HPL; omega) g8 (by have := unhide H8; have := unhide H9; omega))
          have HLQ := hide ((unhide HAQ1).lz (by have := unhide HQL; omega) g8 (by have := unhide H8; have := unhide H9; omega))
          have hpx : pi < ps.length := by have := unhide HPL; omega
          have hkx : ki < qs.length := by have := unhide HQL; omega
          have hp32 := unhide HP32 _ (getD_mem hpx)
          have hq32 := unhide HQ32 _ (getD_mem hkx)
          obtain ⟨gr, b1, c1, epa, hb1, r1, r2, r3, r4, r5, r6, r7⟩ := (unhide HAP1).at pi hpx (by omega)
          obtain ⟨gq, b2, c2, eqa, hb2, s1, s2, s3, s4, s5, s6, s7⟩ := (unhide HAQ1).at ki hkx (by omega)
          subst epa
          subst eqa
          rw [hp32] at r1 r4
          rw [hq32] at s1 s4
          have HR4 := hide r4
          have HR5 := hide r5
          have HR6 := hide r6
          have hgr9 : gr ≠ g9 := fun e => by have := ((unhide HAP1).own gr rfl).1; omega
          have hb19 : b1 ≠ g9 := by omega
          have hb29 : b2 ≠ g9 := by omega
          have hpi64 : (pi : Int) < 64 := by omega
          have hki4 : (ki : Int) < 4 := by omega
          have D1 : W1.cell? ⟨g9, 1, none⟩ = some (.slice (some ⟨gr, 0, none⟩) 64 pc) := by rw [cell_of_row W1 g9 1 _ _ _ (unhide HGW)]; rfl
          have D2 : W1.cell? ⟨g9, 2, none⟩ = some (.slice (some ⟨gq, 0, none⟩) 4 qc) := by rw [cell_of_row W1 g9 2 _ _ _ (unhide HGW)]; rfl
          have D0 : W1.cell? ⟨g9, 0, none⟩ = some (.int .i64 i) := by rw [cell_of_row W1 g9 0 _ _ _ (unhide HGW)]; rfl
          have F0 : W1.frozen? ⟨g9, 0, none⟩ = false := frozen_of_row W1 g9 0 _ _ (unhide HGW)
          have F1 : W1.frozen? ⟨g9, 1, none⟩ = false := frozen_of_row W1 g9 1 _ _ (unhide HGW)
          have F2 : W1.frozen? ⟨g9, 2, none⟩ = false := frozen_of_row W1 g9 2 _ _ (unhide HGW)
          have hg8 : w.heap.size ≤ g8 := by have := unhide H8; omega
          have hg89 : g8 < g9 := by have := unhide H8; have := unhide H9; omega
          obtain ⟨B1, hB1⟩ : ∃ B, B = (ps.getD pi []).getD 0 0 := ⟨_, rfl⟩
          obtain ⟨B2, hB2⟩ : ∃ B, B = (qs.getD ki []).getD 0 0 := ⟨_, rfl⟩
          rw [← hB1] at r2
          rw [← hB2] at s2
          have HB1 := hide hB1
          have hB1b : 0 ≤ B1 ∧ B1 ≤ 255 := by rw [hB1]; exact r5.at 0
          have HB1b := hide hB1b
          have HP32p := hide hp32
          clear hB1 hB2 hB1b r4 r5 r6 s4 s5 s6 hp32 hq32 HAP7 HAQ HK7 HG7 HZ7 HC1 HC2 d1 d2 kkW hpx hkx HPX7
          rcases (by omega : how = 0 ∨ how = 1 ∨ how = 2 ∨ how = 3 ∨ how = 4 ∨ how = 5 ∨ how = 6 ∨ how = 7 ∨ how = 8) with rfl | rfl | rfl | rfl | rfl | rfl | rfl | rfl | rfl
          · have HGf := hide (unhide HGW)
            have HZf := hide (unhide HZW)
            go_wp2_with (refine wpList_load_row rfl 33 (.tmp 9) rfl g9 rfl 33 _ (0, 0) _ (unhide HGf) Tryd.underlying33 rfl Tryd.sigSize ?_; refine Hid.out ?_)
            refine hide ?_
            go_wp2_with (refine wpList_store_sig rfl (.tmp 8) (.tmp 169) rfl g8 rfl _ _ _ _ _ _ (unhide HZf) rfl ⟨rfl, rfl, rfl⟩ ?_; intro w9 G9 K9)
            refine bodyPost_ret (results_sig1 rfl _ _ g8 _ _ _ (0, 0) rfl G9) rfl ?_
            exact ⟨_, rfl, trnd_end (unhide HLP) (unhide HLQ) (unhide HI) (fun h => by omega) K9 (unhide HKW) hg8⟩
          · obtain ⟨y, hy⟩ : ∃ y, y = bits .xor .u8 B1 tn := ⟨_, rfl⟩
            have hyb : 0 ≤ y ∧ y ≤ 255 := by rw [hy]; exact xor_bd B1 tn
            have k' := setCell_kp W1 b1 0 (.int .u8 y)
            obtain ⟨ps', hLP'⟩ := (unhide HLP).poke y hyb.1 hyb.2 r2
            obtain ⟨qs', hLQ'⟩ := (unhide HLQ).poke y hyb.1 hyb.2 r2
            have HNE : Hid (tn ≠ 0 → ps' ≠ ps) := by
              intro ht e
              obtain ⟨l, q1, q2, _, _⟩ := hLP'
              rw [e] at q2
              obtain ⟨b', off', ay, ny, cy, e1, q3, q4, _⟩ := lists_at q1 q2 pi (by have := unhide HPL; omega)
              injection e1 with e1
              injection e1 with e2 e3
              subst e2
              subst e3
              rw [Nat.zero_add, cell_setCell_ne rfl (by intro h; have := congrArg Addr.block h; simp at this; omega) rfl, r1] at q3
              injection q3 with q3
              injection q3 with f1 f2 f3
              subst f1
              obtain ⟨ao', c', e4, _, _, _, q5⟩ := q4
              injection e4 with e4
              have hne : 0 < (ps.getD pi []).length := by have := unhide HP32p; omega
              have q6 := q5 ⟨b1, 0, none⟩ e4.symm 0 (.int .u8 ((ps.getD pi [])[0])) (by simp)
              rw [show (⟨b1, 0, none⟩ : Addr).add 0 = ⟨b1, 0, none⟩ from rfl, cell_setCell_same r2] at q6
              have q7 : y = (ps.getD pi [])[0] := by simpa using q6
              have q8 : B1 = (ps.getD pi [])[0] := by rw [unhide HB1, List.getD_eq_getElem?_getD (l := ps.getD pi []), List.getElem?_eq_getElem hne]; rfl
              exact xor_ne B1 tn (unhide HB1b) (unhide HTN) ht (by rw [← hy, q7, q8])
            have HLP' := hide hLP'
            have HLQ' := hide hLQ'
            have G' := k'.heap (unhide HGW) (by simp; omega)
            have Z' := k'.heap (unhide HZW) (by simp; omega)
            have HK' : Hid (Kp [] w (W1.setCell ⟨b1, 0, none⟩ (.int .u8 y))) := (unhide HKW).then k' (fun j hj => .inr (by have := unhide H9; simp at hj; omega))
            clear hLP' hLQ' k' hyb
            rw [hy] at G' Z' HLP' HLQ' HK'
            clear hy
            have HGf := hide G'
            have HZf := hide Z'
            go_wp2_with (refine wpList_load_row rfl 33 (.tmp 9) rfl g9 rfl 33 _ (0, 0) _ (unhide HGf) Tryd.underlying33 rfl Tryd.sigSize ?_; refine Hid.out ?_)
            refine hide ?_
            go_wp2_with (refine wpList_store_sig rfl (.tmp 8) (.tmp 169) rfl g8 rfl _ _ _ _ _ _ (unhide HZf) rfl ⟨rfl, rfl, rfl⟩ ?_; intro w9 G9 K9)
            refine bodyPost_ret (results_sig1 rfl _ _ g8 _ _ _ (0, 0) rfl G9) rfl ?_
            exact ⟨_, rfl, trnd_end (unhide HLP') (unhide HLQ') (unhide HI) (fun _ => unhide HNE) K9 (unhide HK') hg8⟩
          · obtain ⟨y, hy⟩ : ∃ y, y = bits .xor .u8 B2 tn := ⟨_, rfl⟩
            have hyb : 0 ≤ y ∧ y ≤ 255 := by rw [hy]; exact xor_bd B2 tn
            have k' := setCell_kp W1 b2 0 (.int .u8 y)
            obtain ⟨ps', hLP'⟩ := (unhide HLP).poke y hyb.1 hyb.2 s2
            obtain ⟨qs', hLQ'⟩ := (unhide HLQ).poke y hyb.1 hyb.2 s2
            have HLP' := hide hLP'
            have HLQ' := hide hLQ'
            have G' := k'.heap (unhide HGW) (by simp; omega)
            have Z' := k'.heap (unhide HZW) (by simp; omega)
            have HK' : Hid (Kp [] w (W1.setCell ⟨b2, 0, none⟩ (.int .u8 y))) := (unhide HKW).then k' (fun j hj => .inr (by have := unhide H9; simp at hj; omega))
            clear hLP' hLQ' k' hyb
            rw [hy] at G' Z' HLP' HLQ' HK'
            clear hy
            have HGf := hide G'
            have HZf := hide Z'
            go_wp2_with (refine wpList_load_row rfl 33 (.tmp 9) rfl g9 rfl 33 _ (0, 0) _ (unhide HGf) Tryd.underlying33 rfl Tryd.sigSize ?_; refine Hid.out ?_)
            refine hide ?_
            go_wp2_with (refine wpList_store_sig rfl (.tmp 8) (.tmp 169) rfl g8 rfl _ _ _ _ _ _ (unhide HZf) rfl ⟨rfl, rfl, rfl⟩ ?_; intro w9 G9 K9)
            refine bodyPost_ret (results_sig1 rfl _ _ g8 _ _ _ (0, 0) rfl G9) rfl ?_
            exact ⟨_, rfl, trnd_end (unhide HLP') (unhide HLQ') (unhide HI) (fun h => by omega) K9 (unhide HK') hg8⟩
          · have hwt : IntKind.i64.wrap tn = tn := wrap_at rfl (by have := unhide HTN; omega) (by have := unhide HTN; omega)
            have k' := setCell_kp W1 g9 0 (.int .i64 (bits .xor .i64 i tn))
            have G' := heap_setCell_same W1 g9 0 _ _ (.int .i64 (bits .xor .i64 i tn)) (unhide HGW)
            have Z' := k'.heap (unhide HZW) (by simp; omega)
            have HK' : Hid (Kp [] w (W1.setCell ⟨g9, 0, none⟩ (.int .i64 (bits .xor .i64 i tn)))) := (unhide HKW).then k' (fun j hj => .inr (by have := unhide H9; simp at hj; omega))
            have L9P := (unhide HAP1).lzoff k' hs3 (by have := unhide HPL; omega) g8 (by have := unhide H8; have := unhide H9; omega)
            have L9Q := (unhide HAQ1).lzoff k' hs5 (by have := unhide HQL; omega) g8 (by have := unhide H8; have := unhide H9; omega)
            have HLP' := hide (L9P)
            have HLQ' := hide (L9Q)
            clear k' L9P L9Q
            have HGf := hide G'
            have HZf := hide Z'
            go_wp2_with (refine wpList_load_row rfl 33 (.tmp 9) rfl g9 rfl 33 _ (0, 0) _ (unhide HGf) Tryd.underlying33 rfl Tryd.sigSize ?_; refine Hid.out ?_)
            refine hide ?_
            go_wp2_with (refine wpList_store_sig rfl (.tmp 8) (.tmp 169) rfl g8 rfl _ _ _ _ _ _ (unhide HZf) rfl ⟨rfl, rfl, rfl⟩ ?_; intro w9 G9 K9)
            refine bodyPost_ret (results_sig1 rfl _ _ g8 _ _ _ (0, 0) rfl G9) rfl ?_
            exact ⟨_, rfl, trnd_end (unhide HLP') (unhide HLQ') (xor64_bd i tn) (fun h => by omega) K9 (unhide HK') hg8⟩
          · have hpc : 64 ≤ pc := (unhide HAP1).cap
            have hrs := run_cut (some ⟨gr, 0, none⟩) 64 pc pi W1 (by omega) hpc (fun h => by cases h)
            have k' := setCell_kp W1 g9 1 (.slice (some ⟨gr, 0, none⟩) pi pc)
            have G' := heap_setCell_same W1 g9 1 _ _ (.slice (some ⟨gr, 0, none⟩) pi pc) (unhide HGW)
            have Z' := k'.heap (unhide HZW) (by simp; omega)
            have HK' : Hid (Kp [] w (W1.setCell ⟨g9, 1, none⟩ (.slice (some ⟨gr, 0, none⟩) pi pc))) := (unhide HKW).then k' (fun j hj => .inr (by have := unhide H9; simp at hj; omega))
            have L9P := (unhide HAP1).lzoff k' hs3 (by have := unhide HPL; omega) g8 (by have := unhide H8; have := unhide H9; omega)
            have L9Q := (unhide HAQ1).lzoff k' hs5 (by have := unhide HQL; omega) g8 (by have := unhide H8; have := unhide H9; omega)
            have HLP' := hide (L9P.take (k := pi) (by have := unhide HPL; omega))
            have HLQ' := hide (L9Q)
            clear k' L9P L9Q
            have HGf := hide G'
            have HZf := hide Z'
            go_wp2_with (refine wpList_load_row rfl 33 (.tmp 9) rfl g9 rfl 33 _ (0, 0) _ (unhide HGf) Tryd.underlying33 rfl Tryd.sigSize ?_; refine Hid.out ?_)
            refine hide ?_
            go_wp2_with (refine wpList_store_sig rfl (.tmp 8) (.tmp 169) rfl g8 rfl _ _ _ _ _ _ (unhide HZf) rfl ⟨rfl, rfl, rfl⟩ ?_; intro w9 G9 K9)
            refine bodyPost_ret (results_sig1 rfl _ _ g8 _ _ _ (0, 0) rfl G9) rfl ?_
            exact ⟨_, rfl, trnd_end (unhide HLP') (unhide HLQ') (unhide HI) (fun h => by omega) K9 (unhide HK') hg8⟩
          · have hqc : 4 ≤ qc := (unhide HAQ1).cap
            have hrs := run_cut (some ⟨gq, 0, none⟩) 4 qc ki W1 (by omega) hqc (fun h => by cases h)
            have k' := setCell_kp W1 g9 2 (.slice (some ⟨gq, 0, none⟩) ki qc)
            have G' := heap_setCell_same W1 g9 2 _ _ (.slice (some ⟨gq, 0, none⟩) ki qc) (unhide HGW)
            have Z' := k'.heap (unhide HZW) (by simp; omega)
            have HK' : Hid (Kp [] w (W1.setCell ⟨g9, 2, none⟩ (.slice (some ⟨gq, 0, none⟩) ki qc))) := (unhide HKW).then k' (fun j hj => .inr (by have := unhide H9; simp at hj; omega))
            have L9P := (unhide HAP1).lzoff k' hs3 (by have := unhide HPL; omega) g8 (by have := unhide H8; have := unhide H9; omega)
            have L9Q := (unhide HAQ1).lzoff k' hs5 (by have := unhide HQL; omega) g8 (by have := unhide H8; have := unhide H9; omega)
            have HLP' := hide (L9P)
            have HLQ' := hide (L9Q.take (k := ki) (by have := unhide HQL; omega))
            clear k' L9P L9Q
            have HGf := hide G'
            have HZf := hide Z'
            go_wp2_with (refine wpList_load_row rfl 33 (.tmp 9) rfl g9 rfl 33 _ (0, 0) _ (unhide HGf) Tryd.underlying33 rfl Tryd.sigSize ?_; refine Hid.out ?_)
            refine hide ?_
            go_wp2_with (refine wpList_store_sig rfl (.tmp 8) (.tmp 169) rfl g8 rfl _ _ _ _ _ _ (unhide HZf) rfl ⟨rfl, rfl, rfl⟩ ?_; intro w9 G9 K9)
            refine bodyPost_ret (results_sig1 rfl _ _ g8 _ _ _ (0, 0) rfl G9) rfl ?_
            exact ⟨_, rfl, trnd_end (unhide HLP') (unhide HLQ') (unhide HI) (fun h => by omega) K9 (unhide HK') hg8⟩
          · have hq16 : Int.tdiv (32 : Int) 2 = 16 := by decide
            have hc116 : 16 ≤ c1 := by have := (unhide HR4).sl; obtain ⟨_, _, e, h, _⟩ := this; injection e with _ _ e3; rw [unhide HP32p] at h; omega
            have hrs := run_cut1 (some ⟨b1, 0, none⟩) 32 c1 16 W1.drew (by omega) (by have := (unhide HR4).sl; obtain ⟨_, _, e, h, _⟩ := this; injection e with _ _ e3; rw [unhide HP32p] at h; omega) (fun h => by cases h)
            have Fg : W1.drew.frozen? ⟨gr, pi, none⟩ = false := unhide HR6 pi
            have k' := (setCell_kp W1.drew gr pi (.slice (some ⟨b1, 0, none⟩) 16 c1))
            have HLP' : Hid (Lz g8 (W1.drew.setCell ⟨gr, pi, none⟩ (.slice (some ⟨b1, 0, none⟩) 16 c1)) (.slice (some ⟨gr, 0, none⟩) 64 pc) (ps.set pi ((ps.getD pi []).take 16))) := (unhide HAP1).half pi (kp_drew W1) (unhide HR4) (unhide HR5) r7 (by have := unhide HPL; omega) g8 (by omega)
            have HLQ' : Hid (Lz g8 (W1.drew.setCell ⟨gr, pi, none⟩ (.slice (some ⟨b1, 0, none⟩) 16 c1)) (.slice (some ⟨gq, 0, none⟩) 4 qc) qs) := ((unhide HAQ1).mid (kp_drew W1)).lzoff k' (by obtain ⟨_, _, _, p3⟩ := unhide HPXW; exact (p3 gr (.inl rfl)).2) (by have := unhide HQL; omega) g8 (by omega)
            have G' := k'.heap ((kp_drew W1).heap (unhide HGW) (by simp)) (by simp; omega)
            have Z' := k'.heap ((kp_drew W1).heap (unhide HZW) (by simp)) (by have := ((unhide HAP1).own gr rfl).1; simp; omega)
            have HK' : Hid (Kp [] w (W1.drew.setCell ⟨gr, pi, none⟩ (.slice (some ⟨b1, 0, none⟩) 16 c1))) := ((unhide HKW).trans (kp_drew W1)).then k' (fun j hj => .inr (by have := ((unhide HAP1).own gr rfl).1; have := unhide H9; simp at hj; omega))
            clear k'
            have dD1 := (kp_drew W1).cell D1 (by simp)
            have dr1 := (kp_drew W1).cell r1 (by simp)
            go_wp2_with fail
            refine region_tail 17 Tryd.mixed (by kernel_rfl) ?_
            simp only [List.take_succ_cons, List.take_zero, List.drop_succ_cons, List.drop_zero]
            repeat (first | go_big_quiet_skip | (go_big_quiet_want; go_big_quiet_op; go_big_quiet_on))
            refine wpQuiet_nil ?_
            have HGf := hide G'
            have HZf := hide Z'
            go_wp2_with (refine wpList_load_row rfl 33 (.tmp 9) rfl g9 rfl 33 _ (0, 0) _ (unhide HGf) Tryd.underlying33 rfl Tryd.sigSize ?_; refine Hid.out ?_)
            refine hide ?_
            go_wp2_with (refine wpList_store_sig rfl (.tmp 8) (.tmp 169) rfl g8 rfl _ _ _ _ _ _ (unhide HZf) rfl ⟨rfl, rfl, rfl⟩ ?_; intro w9 G9 K9)
            refine bodyPost_ret (results_sig1 rfl _ _ g8 _ _ _ (0, 0) rfl G9) rfl ?_
            exact ⟨_, rfl, trnd_end (unhide HLP') (unhide HLQ') (unhide HI) (fun h => by omega) K9 (unhide HK') hg8⟩
          · obtain ⟨i0, hi0, hz0, hz1, hz2⟩ := info_parts Tryd.info5
            obtain ⟨wm, hmr, hm1, hm2⟩ := run_make_full (P := Tryd.prog) W1.drew W1.heap.size 24 5 i0 (.int .u8 0) 1 Tryd.underlying24 hi0 hz0 hz1 .i64 .i64 32 (by rw [hz2]; omega) (by unfold maxLen; omega) (Nat.le_refl _)
            rw [made_zero] at hm1
            have hmr' : (Instr.makeSlice 24 (.int .i64 32) (.int .i64 32)).run Tryd.prog W1.drew = .ok (.slice (some ⟨W1.heap.size, 0, none⟩) 32 32) wm := hmr
            clear hmr
            have RM : Row wm W1.heap.size (.slice (some ⟨W1.heap.size, 0, none⟩) 32 32) (List.replicate 32 (0 : Int)) := by unfold Row; rw [List.length_replicate]; exact hm1
            have KM : Kp [] W1 wm := (kp_drew W1).trans ((Kp.refl [] W1.drew).grown hm2 (by intro k hk; cases hk))
            have HRM := hide RM
            have HKM := hide KM
            have E2 : wm.cell? ⟨g9, 2, none⟩ = some (.slice (some ⟨gq, 0, none⟩) 4 qc) := KM.cell D2 (by simp)
            have E2a : ∀ o, (wm.alloc o).cell? ⟨g9, 2, none⟩ = some (.slice (some ⟨gq, 0, none⟩) 4 qc) := fun o => (World.cell?_alloc_lt _ _ _ (by exact World.block_lt_of_cell? _ _ E2)).trans E2
            have hbz : Bs (List.replicate 32 (0 : Int)) := fun b hb => by rw [List.eq_of_mem_replicate hb]; omega
            have HBZ := hide hbz
            have HLNq : Hid (qs.length ≤ 1000000) := hide (by have := unhide HQL; omega)
            clear hm1 hm2 RM KM hbz
            go_wp2_with fail
            go_region_law ((refine step_accp (by rfl) (.tmp 161) (.tmp 163) (by rfl) (.slice (some ⟨gq, 0, none⟩) 4 qc) _ (by rfl) (unhide HAQ1) (unhide HLNq) (.slice (some ⟨W1.heap.size, 0, none⟩) 32 32) (List.replicate 32 (0 : Int)) (unhide HKM) (unhide HRM) (unhide HBZ) wm.heap.size (by rfl) (by exact cell_of_one (heap_alloc_new wm _)) ((Kp.refl [] wm).alloc _) ?_; intro ao5 m5 c5 w8 A5 S5; have G5 : w8.heap[g9]? = some _ := S5.1.heap (unhide HGW) (fun hm => by have := ((unhide HAQ1).own g9 (by simpa using hm)).1; omega); have hc5 : w8.cell? ⟨g9, 2, none⟩ = some (.slice (some ⟨gq, 0, none⟩) 4 qc) := (by rw [cell_of_row w8 g9 2 _ _ _ G5]; rfl); have hf5 : w8.frozen? ⟨g9, 2, none⟩ = false := frozen_of_row w8 g9 2 _ _ G5))
            all_goals
              have k' := setCell_kp w8 g9 2 (.slice ao5 m5 c5)
              have G' := heap_setCell_same w8 g9 2 _ _ (.slice ao5 m5 c5) G5
              have hgqo := (unhide HAQ1).own
              have Z' := k'.heap (S5.1.heap (unhide HZW) (fun hm => by have := (hgqo g8 (by simpa using hm)).1; omega)) (by simp; omega)
              have HK' : Hid (Kp [] w (w8.setCell ⟨g9, 2, none⟩ (.slice ao5 m5 c5))) := ((unhide HKW).then S5.1 (fun j hj => .inr (by have := (hgqo j (by simpa using hj)).1; have := unhide H9; omega))).then k' (fun j hj => .inr (by have := unhide H9; simp at hj; omega))
              have HLQ' := hide (A5.lzoff k' hs5 (by have := unhide HQL; simp; omega) g8 (by omega))
              have HLP' : Hid (Lz g8 (w8.setCell ⟨g9, 2, none⟩ (.slice ao5 m5 c5)) (.slice (some ⟨gr, 0, none⟩) 64 pc) ps) := by
                obtain ⟨l, p1, p2, p3⟩ := unhide HPXW
                exact ⟨l, (p1.off S5.1 (fun q hq hm => by have := p3 q (.inl hq); have := (hgqo q (by simpa using hm)).1; omega) (fun y hy q hq hm => by have := p3 q (.inr ⟨y, hy, hq⟩); have := (hgqo q (by simpa using hm)).1; omega)).off k' (fun q hq => by have := p3 q (.inl hq); simp; omega) (fun y hy q hq => by have := p3 q (.inr ⟨y, hy, hq⟩); simp; omega), p2, fun q hq => by have := p3 q (.inl hq); omega, fun y hy q hq => by have := p3 q (.inr ⟨y, hy, hq⟩); omega⟩
              clear k' A5 S5 G5 hc5 hf5 hgqo E2 E2a hmr'
              have HGf := hide G'
              have HZf := hide Z'
              go_wp2_with (refine wpList_load_row rfl 33 (.tmp 9) rfl g9 rfl 33 _ (0, 0) _ (unhide HGf) Tryd.underlying33 rfl Tryd.sigSize ?_; refine Hid.out ?_)
              refine hide ?_
              go_wp2_with (refine wpList_store_sig rfl (.tmp 8) (.tmp 169) rfl g8 rfl _ _ _ _ _ _ (unhide HZf) rfl ⟨rfl, rfl, rfl⟩ ?_; intro w9 G9 K9)
              refine bodyPost_ret (results_sig1 rfl _ _ g8 _ _ _ (0, 0) rfl G9) rfl ?_
              exact ⟨_, rfl, trnd_end (unhide HLP') (unhide HLQ') (unhide HI) (fun h => by omega) K9 (unhide HK') hg8⟩
          · skip
            have k' := setCell_kp W1 g9 0 (.int .i64 (-1))
            have G' := heap_setCell_same W1 g9 0 _ _ (.int .i64 (-1)) (unhide HGW)
            have Z' := k'.heap (unhide HZW) (by simp; omega)
            have HK' : Hid (Kp [] w (W1.setCell ⟨g9, 0, none⟩ (.int .i64 (-1)))) := (unhide HKW).then k' (fun j hj => .inr (by have := unhide H9; simp at hj; omega))
            have L9P := (unhide HAP1).lzoff k' hs3 (by have := unhide HPL; omega) g8 (by have := unhide H8; have := unhide H9; omega)
            have L9Q := (unhide HAQ1).lzoff k' hs5 (by have := unhide HQL; omega) g8 (by have := unhide H8; have := unhide H9; omega)
            have HLP' := hide (L9P)
            have HLQ' := hide (L9Q)
            clear k' L9P L9Q
            have HGf := hide G'
            have HZf := hide Z'
            go_wp2_with (refine wpList_load_row rfl 33 (.tmp 9) rfl g9 rfl 33 _ (0, 0) _ (unhide HGf) Tryd.underlying33 rfl Tryd.sigSize ?_; refine Hid.out ?_)
            refine hide ?_
            go_wp2_with (refine wpList_store_sig rfl (.tmp 8) (.tmp 169) rfl g8 rfl _ _ _ _ _ _ (unhide HZf) rfl ⟨rfl, rfl, rfl⟩ ?_; intro w9 G9 K9)
            refine bodyPost_ret (results_sig1 rfl _ _ g8 _ _ _ (0, 0) rfl G9) rfl ?_
            exact ⟨_, rfl, trnd_end (unhide HLP') (unhide HLQ') (by omega) (fun h => by omega) K9 (unhide HK') hg8⟩
end Go.Proofs.YtdioaohejoflcaaDoor

/-
  A signature that is written is read again: the plain form, and Decode with memory of its own; the law package's Sized at a signature's size.
-/
namespace Go.Proofs.YtdioaohejoflcaaDoor
open Go.ChangeShapes Go.WideShapes Go.ChangeAt Go.RowKit
open Go.Deep
open Go.Proofs

theorem sb_flat_len (ps : List (List Int)) (h : ∀ x ∈ ps, x.length = 32) : ps.flatten.length = 32 * ps.length := by
  induction ps with
  | nil => rfl
  | cons a l ih => rw [List.flatten_cons, List.length_append, h a (by simp), ih (fun x hx => h x (by simp [hx])), List.length_cons]; omega
theorem sb_flat_drop (ps : List (List Int)) (h : ∀ x ∈ ps, x.length = 32) (r : List Int) : ∀ n, n ≤ ps.length → (ps.flatten ++ r).drop (32 * n) = (ps.drop n).flatten ++ r := by
  induction ps with
  | nil => intro n hn; have : n = 0 := by simpa using hn
           subst this; simp
  | cons a l ih =>
    intro n hn
    cases n with
    | zero => simp
    | succ n =>
      have ha : a.length = 32 := h a (by simp)
      rw [show 32 * (n + 1) = a.length + 32 * n by omega, List.flatten_cons, List.append_assoc, ← List.drop_drop, List.drop_left, ih (fun x hx => h x (by simp [hx])) n (by simpa using hn)]
      rfl
theorem sb_chP_flat (ps : List (List Int)) (h : ∀ x ∈ ps, x.length = 32) (r : List Int) (n : Nat) (hn : ps.length = n) : chP n (ps.flatten ++ r) = ps := by
  apply List.ext_getElem
  · rw [chP_len, hn]
  · intro j h1 h2
    have : (ps.drop j).flatten = ps[j] ++ (ps.drop (j + 1)).flatten := by rw [List.drop_eq_getElem_cons h2, List.flatten_cons]
    simp only [chP, List.getElem_map, List.getElem_range]
    rw [sb_flat_drop ps h r j (by omega), this, List.append_assoc, ← h ps[j] (List.getElem_mem h2), List.take_left]
theorem encP_len (i : Int) (ps qs : List (List Int)) (hr : rgtP i ps qs = true) : (encP i ps qs).length = 2180 := by
  obtain ⟨_, ⟨h1, h2⟩, h3, h4⟩ := (rgtP_iff _ _ _).1 hr
  unfold encP
  rw [List.length_append, List.length_append, be4_len, sb_flat_len _ h2, sb_flat_len _ h4, h1, h3]
theorem encP_back (i : Int) (ps qs : List (List Int)) (hr : rgtP i ps qs = true) : decOk (encP i ps qs) = true ∧ val ((encP i ps qs).take 4) = i ∧ chP 64 ((encP i ps qs).drop 4) = ps ∧ chP 4 ((encP i ps qs).drop 2052) = qs := by
  have hl := encP_len i ps qs hr
  obtain ⟨⟨hi0, hi1⟩, ⟨h1, h2⟩, h3, h4⟩ := (rgtP_iff _ _ _).1 hr
  have e1 : (encP i ps qs).take 4 = be4 i := by unfold encP; rw [← be4_len i, List.take_left]
  have e2 : (encP i ps qs).drop 4 = ps.flatten ++ qs.flatten := by unfold encP; rw [← be4_len i, List.drop_left]
  have e3 : (encP i ps qs).drop 2052 = qs.flatten ++ [] := by
    rw [show 2052 = 4 + 2048 from rfl, ← List.drop_drop, e2, show 2048 = ps.flatten.length by rw [sb_flat_len _ h2, h1], List.drop_left, List.append_nil]
  have e4 : val (be4 i) = i := by
    obtain ⟨k, rfl⟩ := Int.eq_ofNat_of_zero_le hi0
    have : k < 16 := by omega
    have key : ∀ k : Nat, k < 16 → val (be4 (k : Int)) = (k : Int) := by decide
    exact key k this
  refine ⟨?_, by rw [e1, e4], by rw [e2, sb_chP_flat _ h2 _ _ h1], by rw [e3, sb_chP_flat _ h4 _ _ h3]⟩
  unfold decOk
  rw [hl, e1, e4]
  simp [hi1]
theorem encP_bs (i : Int) (ps qs : List (List Int)) (hr : rgtP i ps qs = true) (hp : ∀ x ∈ ps, Bs x) (hq : ∀ x ∈ qs, Bs x) : Bs (encP i ps qs) := by
  obtain ⟨⟨hi0, hi1⟩, _, _⟩ := (rgtP_iff _ _ _).1 hr
  intro b hb
  unfold encP at hb
  rcases List.mem_append.1 hb with h | h
  · obtain ⟨k, rfl⟩ := Int.eq_ofNat_of_zero_le hi0
    have key : ∀ k : Nat, k < 16 → ∀ b ∈ be4 (k : Int), 0 ≤ b ∧ b ≤ 255 := by decide
    exact key k (by omega) b h
  · rcases List.mem_append.1 h with h | h
    · obtain ⟨x, hx, hb⟩ := List.mem_flatten.1 h; exact hp x hx b hb
    · obtain ⟨x, hx, hb⟩ := List.mem_flatten.1 h; exact hq x hx b hb

theorem made_sig : (madeCells (Value.int .u8 0).cells (2180 * 1)).toList = (List.replicate 2180 (0 : Int)).map (Value.int .u8) := by
  rw [List.map_replicate]
  exact toList_madeCells_one (.int .u8 0) 2180
theorem splice_sig (bs : List Int) : splice ((List.replicate 2180 (0 : Int)).map (Value.int .u8)) 0 ((bs.take 2180).map (Value.int .u8)) = (bs.take 2180 ++ List.replicate (2180 - (bs.take 2180).length) 0).map (Value.int .u8) := by
  unfold splice
  rw [List.take_zero, List.nil_append, List.map_append, ← List.map_drop, List.drop_replicate]
  congr 3
  simp

set_option maxRecDepth 100000 in
set_option maxHeartbeats 1000000 in
theorem sized_sig (v : Value) (bs : List Int) (w : World) (hS : Sl w v bs) (hB : Bs bs) :
    Calls Tryd.prog 21 #[v, .int .i64 2180] w fun e w' => ∃ g bs', e = .returned (.slice (some ⟨g, 0, none⟩) 2180 2180) ∧ bs'.length = 2180 ∧ Bs bs' ∧ Row w' w.heap.size (.slice (some ⟨g, 0, none⟩) 2180 2180) bs' ∧ Kp [] w w' := by
  obtain ⟨i0, hi0, hz0, hz1, hz2⟩ := info_parts Tryd.info5
  obtain ⟨ao, c, rfl, h1, h2, h3, h4⟩ := hS
  obtain ⟨cs, hcs⟩ : ∃ cs, cs = (bs.take 2180).map (Value.int .u8) := ⟨_, rfl⟩
  have hcl : cs.length = min bs.length 2180 := by rw [hcs]; simp; omega
  have hone : ∀ u ∈ cs, u.oneCell' = true := by
    rw [hcs]
    intro u hu
    obtain ⟨x, _, rfl⟩ := List.mem_map.1 hu
    rfl
  have hsrc : Hid (∀ a, ao = some a → ∀ j u, cs[j]? = some u → w.cell? (a.add j) = some u) := by
    rw [hcs]
    intro a ha j u hu
    refine h4 a ha j u ?_
    rw [List.map_take, List.getElem?_take] at hu
    split at hu
    · exact hu
    · cases hu
  have HC := hide hcs
  have HCL := hide hcl
  have HB := hide hB
  obtain ⟨nb, hnb⟩ : ∃ n, n = bs.length := ⟨_, rfl⟩
  rw [← hnb] at h1 HCL ⊢
  clear h4 hcs hcl hB hnb
  go_enter Tryd.func21, Tryd.ntmps21
  have hszi : (Tryd.prog.info? 5).map (·.size) = some 1 := by rw [hi0]; simp [hz1]
  go_wp2_with (at_make; refine wpList_make_full _ rfl _ _ 24 rfl w.heap.size 5 i0 (.int .u8 0) 1 Tryd.underlying24 hi0 hz0 hz1 .i64 .i64 _ _ 2180 rfl rfl (by omega) (by omega) (by rw [hz2]; omega) (by unfold maxLen; omega) (Nat.le_refl _) ?_; intro w1 o1 g1; refine Hid.out ?_)
  rw [made_sig] at o1
  have hcur := hide (made_all o1)
  have B1 : Below w.heap.size w w1 := (Below.refl _ _).grown g1 (Nat.le_refl _) (by intro k hk; cases hk)
  have HB1 := hide B1
  obtain ⟨zs, hzs⟩ : ∃ zs, zs = (List.replicate 2180 (0 : Int)).map (Value.int .u8) := ⟨_, rfl⟩
  rw [← hzs] at hcur
  have HZ := hide hzs
  have HZL : Hid (zs.length = 2180) := hide (by rw [hzs]; simp)
  clear o1 g1 B1 hzs
  refine hide ?_
  go_wp2_with (refine wpList_copy_splice rfl (.tmp 8) (.tmp 9) 24 24 rfl 5 Tryd.underlying24 hszi (some ⟨w.heap.size, 0, none⟩) ao 2180 2180 nb c rfl rfl w.heap.size 0 zs 5 (unhide hcur) cs (by have := unhide HCL; unfold Nat.min at *; omega) (fun hpos => ⟨rfl, copy_src (unhide HB1) (unhide hsrc) (h3) (by have := unhide HCL; omega)⟩) (by have := unhide HCL; have := unhide HZL; omega) hone w.heap.size w (unhide HB1) (Nat.le_refl _) ?_; intro w2 H2 B2; refine Hid.out ?_)
  have hbl : (bs.take 2180 ++ List.replicate (2180 - (bs.take 2180).length) (0 : Int)).length = 2180 := by simp; omega
  have hrow : Row w2 w.heap.size (.slice (some ⟨w.heap.size, 0, none⟩) 2180 2180) (bs.take 2180 ++ List.replicate (2180 - (bs.take 2180).length) 0) := by
    have := H2.out
    rw [unhide HZ, unhide HC, splice_sig] at this
    exact row_of_block (Nat.le_refl _) this hbl (by unfold maxLen; omega)
  have hbb : Bs (bs.take 2180 ++ List.replicate (2180 - (bs.take 2180).length) (0 : Int)) := by
    intro b hb
    rcases List.mem_append.1 hb with h | h
    · exact (unhide HB).take 2180 b h
    · rw [List.eq_of_mem_replicate h]; omega
  have HRW := hide hrow
  have HBB := hide hbb
  have HBL := hide hbl
  have HK2 := hide (Kp.of_below B2)
  clear hrow hbb hbl H2 B2
  refine hide ?_
  go_wp2_with fail
  go_ret
  exact ⟨_, _, rfl, unhide HBL, unhide HBB, unhide HRW, unhide HK2⟩

set_option maxRecDepth 100000 in
set_option maxHeartbeats 4000000 in
theorem decode_apart (vb : Value) (bs : List Int) (w : World) (hS : Sl w vb bs) (hB : Bs bs) (hok : decOk bs = true) :
    Calls Tryd.prog 19 #[vb] w fun e w' => ∃ v, e = .returned (.tuple #[v, .int .i64 0]) ∧ (∀ (S : List Nat) w2, (∀ q ∈ S, q < w.heap.size) → Kp S w' w2 → SigV w2 v (val (bs.take 4)) (chP 64 (bs.drop 4)) (chP 4 (bs.drop 2052))) ∧ Kp [] w w' := by
  have hl : bs.length = 2180 := by unfold decOk at hok; simp at hok; exact hok.1
  have HOK := hide hok
  have HB := hide hB
  have HL := hide hl
  clear hok
  obtain ⟨ob, hob⟩ : ∃ o : Obj, o = (.cells #[.int .i64 0, .slice none 0 0, .slice none 0 0] 33) := ⟨_, rfl⟩
  have K1 : Kp [] w (w.alloc ob) := (Kp.refl [] w).alloc ob
  have HRd := hide (read_any vb bs (w.alloc ob) (hS.kept K1 (by simp)) (by omega))
  have G1 : Hid ((w.alloc ob).heap[w.heap.size]? = some ob) := heap_alloc_new w ob
  rw [hob] at K1 HRd G1
  have HK1 := hide K1
  obtain ⟨ab, cb, hvb, _⟩ := hS
  rw [hl] at hvb
  subst hvb
  clear hob K1 hB hl
  go_enter Tryd.func19, Tryd.ntmps19
  go_wp2_with fail
  refine (unhide HRd).mono ?_
  rintro ee w2 ⟨q, v2, rfl, hq2, R2, hv2, K2⟩
  have HK2 := hide ((unhide HK1).trans K2)
  have HG2 := hide (K2.heap (unhide G1) (by simp))
  have HKa : Hid (Kp [] w2 (w2.alloc (.cells #[.int .i64 0, .slice none 0 0, .slice none 0 0] 33))) := (Kp.refl [] w2).alloc _
  have HR2 := hide (R2.kept (unhide HKa) (by simp) (by simp))
  have hqlt : q < w2.heap.size := lt_of_block R2.1
  have HV2 := hide hv2
  have hqw : w.heap.size < q := by have e : (w.alloc ob).heap.size = w.heap.size + 1 := by simp
                                   have e' : ∀ o : Obj, (w.alloc o).heap.size = w.heap.size + 1 := fun o => by simp
                                   rw [e'] at hq2; omega
  have HGa : Hid ((w2.alloc (.cells #[.int .i64 0, .slice none 0 0, .slice none 0 0] 33)).heap[w2.heap.size]? = some (.cells #[.int .i64 0, .slice none 0 0, .slice none 0 0] 33)) := heap_alloc_new w2 _
  have hRn := rnum_any q v2 false bs _ (unhide HR2) (unhide HB)
  rw [show tk false bs 4 = (bs.take 4, false, bs.drop 4) from tk_ok false bs 4 (by have := unhide HL; omega)] at hRn
  obtain ⟨x, hx⟩ : ∃ x, x = val (bs.take 4) := ⟨_, rfl⟩
  dsimp only at hRn
  rw [← hx] at hRn
  have hxb : 0 ≤ x ∧ x < 4294967296 := by
    have := val_bd (bs.take 4) ((unhide HB).take 4)
    rw [List.length_take, Nat.min_eq_left (by have := unhide HL; omega), ← hx] at this
    exact ⟨this.1, by simpa using this.2⟩
  have hwx : IntKind.i64.wrap x = x := wrap_at rfl (by omega) (by omega)
  have HX := hide hx
  have HXB := hide hxb
  have HRn := hide hRn
  clear hx hxb hRn
  clear HRd R2 hv2 K2 HK1 G1 hq2
  go_wp2_with fail
  refine (unhide HRn).mono ?_
  rintro ee w3 ⟨rfl, ⟨v3, R3, hv3⟩, K3⟩
  obtain ⟨g1, hg1⟩ : ∃ g, g = w2.heap.size := ⟨_, rfl⟩
  rw [← hg1] at HGa hqlt HV2 ⊢
  have hza : Hid (∀ o : Obj, (w2.alloc o).heap.size = g1 + 1) := fun o => by rw [hg1]; simp
  have G3 : w3.heap[g1]? = some (.cells #[.int .i64 0, .slice none 0 0, .slice none 0 0] 33) := K3.heap (unhide HGa) (by simp; omega)
  have hc3 : w3.cell? ⟨g1, 0, none⟩ = some (.int .i64 0) := by rw [cell_of_row w3 g1 0 _ _ _ G3]; rfl
  have hf3 : w3.frozen? ⟨g1, 0, none⟩ = false := frozen_of_row w3 g1 0 _ _ G3
  have HK3 : Hid (Kp [] w w3) := ((unhide HK2).trans (unhide HKa)).then K3 (fun i hi => .inr (by simp at hi; omega))
  have k4 := setCell_kp w3 g1 0 (.int .i64 x)
  have g4 := heap_setCell_same w3 g1 0 _ _ (.int .i64 x) G3
  have hv3' : ∀ k, v3.ownBlock = some k → k < g1 := fun k hk => (unhide HV2 k (hv3 k hk)).2
  have R4 := R3.kept k4 (by simp; omega) (fun i hi => by have := hv3' i hi; simp; omega)
  have hsz3 : g1 + 1 ≤ w3.heap.size := by have := K3.size; rw [unhide hza] at this; exact this
  have hsz4 : w3.heap.size ≤ (w3.setCell ⟨g1, 0, none⟩ (.int .i64 x)).heap.size := k4.size
  have HC4 := hide (reads_any q v3 (bs.drop 4) 64 _ R4 (fun k hk => by have := hv3' k hk; omega) ((unhide HB).drop 4) (by rw [List.length_drop]; have := unhide HL; omega) (by omega) (by rw [List.length_drop]; have := unhide HL; omega))
  have HK4 : Hid (Kp [] w (w3.setCell ⟨g1, 0, none⟩ (.int .i64 x))) := (unhide HK3).then k4 (fun i hi => .inr (by simp at hi; subst hi; have := (unhide HK2).size; omega))
  have HG4 := hide g4
  have HV3 := hide hv3'
  have HQ4 : Hid (Kp [q, g1] w2 (w3.setCell ⟨g1, 0, none⟩ (.int .i64 x))) := (((unhide HKa).mono (by simp)).trans (K3.mono (by simp))).trans (k4.mono (by simp))
  have HGW : Hid (w.heap.size < g1) := hide (by omega)
  clear G3 k4 g4 hv3' R4 R3 hv3 K3 HRn HR2 HGa HKa HK3 HV2 hg1
  go_wp2_with fail
  refine (unhide HC4).mono ?_
  rintro ee w5 ⟨a5, m5, c5, rfl, A5, v5, R5, hv5⟩
  have hA5 := A5.kp
  have HG5 : w5.heap[g1]? = some _ := hA5.heap (unhide HG4) (by simp; omega)
  have hc5 : w5.cell? ⟨g1, 1, none⟩ = some (.slice none 0 0) := by rw [cell_of_row w5 g1 1 _ _ _ HG5]; rfl
  have hf5 : w5.frozen? ⟨g1, 1, none⟩ = false := frozen_of_row w5 g1 1 _ _ HG5
  have k6 := setCell_kp w5 g1 1 (.slice a5 m5 c5)
  have g6 := heap_setCell_same w5 g1 1 _ _ (.slice a5 m5 c5) HG5
  have HL5 : Hid (∃ l, Lists w5 (.slice a5 m5 c5) l ∧ l.map (·.2) = chP 64 (bs.drop 4) ∧ (∀ q, (Value.slice a5 m5 c5).ownBlock = some q → g1 + 1 ≤ q) ∧ ∀ x ∈ l, ∀ q, x.1.ownBlock = some q → g1 + 1 ≤ q) := by
    obtain ⟨l, h1, h2, h3, h4⟩ := A5.lists (by rw [chP_len]; omega)
    exact ⟨l, h1, h2, fun q hq => by have := h3 q hq; omega, fun x hx q hq => by have := h4 x hx q hq; omega⟩
  have hv5' : ∀ k, v5.ownBlock = some k → k < g1 := fun k hk => unhide HV3 k (hv5 k hk)
  have hsz5 : g1 + 1 ≤ w5.heap.size := by have := hA5.size; omega
  have R6 := R5.kept k6 (by simp; omega) (fun i hi => by have := hv5' i hi; simp; omega)
  have hsz6 := k6.size
  rw [List.drop_drop] at R6
  have HC6 := hide (reads_any q v5 (bs.drop (4 + 32 * 64)) 4 _ R6 (fun k hk => by have := hv5' k hk; omega) ((unhide HB).drop _) (by rw [List.length_drop]; have := unhide HL; omega) (by omega) (by rw [List.length_drop]; have := unhide HL; omega))
  have HK5 : Hid (Kp [] w w5) := (unhide HK4).then hA5 (fun i hi => .inr (by simp at hi; omega))
  have HK6 : Hid (Kp [] w (w5.setCell ⟨g1, 1, none⟩ (.slice a5 m5 c5))) := (unhide HK5).then k6 (fun i hi => .inr (by simp at hi; subst hi; have := unhide HGW; omega))
  have HK56 := hide k6
  have HQ6 : Hid (Kp [q, g1] w2 (w5.setCell ⟨g1, 1, none⟩ (.slice a5 m5 c5))) := ((unhide HQ4).trans (hA5.mono (by simp))).trans (k6.mono (by simp))
  have HG6 := hide g6
  clear HG5 k6 g6 hv5' R6 R5 hv5 A5 hA5 HC4 HG4 HV3 HK4 HK5 hc3 hf3 hsz3 hsz4
  go_wp2_with fail
  refine (unhide HC6).mono ?_
  rintro ee w7 ⟨a7, m7, c7, rfl, A7, -⟩
  have hA7 := A7.kp
  have HG7 : w7.heap[g1]? = some _ := hA7.heap (unhide HG6) (by simp; omega)
  have hc7 : w7.cell? ⟨g1, 2, none⟩ = some (.slice none 0 0) := by rw [cell_of_row w7 g1 2 _ _ _ HG7]; rfl
  have hf7 : w7.frozen? ⟨g1, 2, none⟩ = false := frozen_of_row w7 g1 2 _ _ HG7
  have k8 := setCell_kp w7 g1 2 (.slice a7 m7 c7)
  have g8 := heap_setCell_same w7 g1 2 _ _ (.slice a7 m7 c7) HG7
  have HK7 : Hid (Kp [] w w7) := (unhide HK6).then hA7 (fun i hi => .inr (by simp at hi; omega))
  have HK8 : Hid (Kp [] w (w7.setCell ⟨g1, 2, none⟩ (.slice a7 m7 c7))) := (unhide HK7).then k8 (fun i hi => .inr (by simp at hi; subst hi; have := unhide HGW; omega))
  have HV8 : Hid (SigV (w7.setCell ⟨g1, 2, none⟩ (.slice a7 m7 c7)) (.agg #[.int .i64 x, .slice a5 m5 c5, .slice a7 m7 c7]) x (chP 64 (bs.drop 4)) (chP 4 (bs.drop 2052)) ∧ ∀ (S : List Nat) w9, (∀ q ∈ S, q ≤ w.heap.size) → Kp S (w7.setCell ⟨g1, 2, none⟩ (.slice a7 m7 c7)) w9 → SigV w9 (.agg #[.int .i64 x, .slice a5 m5 c5, .slice a7 m7 c7]) x (chP 64 (bs.drop 4)) (chP 4 (bs.drop 2052))) := by
    obtain ⟨lp, h1, h2, h3, h4⟩ := unhide HL5
    obtain ⟨lq, g1', g2, g3, g4⟩ := A7.lists (by rw [chP_len]; omega)
    have p6 := h1.off (unhide HK56) (fun q hq => by have := h3 q hq; simp; omega) (fun y hy q hq => by have := h4 y hy q hq; simp; omega)
    have p7 := p6.off hA7 (fun i hq => by have := h3 i hq; simp; omega) (fun y hy i hq => by have := h4 y hy i hq; simp; omega)
    have p8 := p7.off k8 (fun q hq => by have := h3 q hq; simp; omega) (fun y hy q hq => by have := h4 y hy q hq; simp; omega)
    have q8 := g1'.off k8 (fun q hq => by have := g3 q hq; simp; omega) (fun y hy q hq => by have := g4 y hy q hq; simp; omega)
    refine ⟨⟨_, _, lp, lq, rfl, p8, h2, q8, g2⟩, fun S w9 hS9 k9 => ⟨_, _, lp, lq, rfl, p8.off k9 (fun q hq => ?_) (fun y hy q hq => ?_), h2, q8.off k9 (fun q hq => ?_) (fun y hy q hq => ?_), g2⟩⟩
    · have h := h3 q hq; have := unhide HGW; exact fun hm => by have := hS9 _ hm; omega
    · have h := h4 y hy q hq; have := unhide HGW; exact fun hm => by have := hS9 _ hm; omega
    · have h := g3 q hq; have := unhide HGW; exact fun hm => by have := hS9 _ hm; omega
    · have h := g4 y hy q hq; have := unhide HGW; exact fun hm => by have := hS9 _ hm; omega
  obtain ⟨r, hr⟩ : ∃ r, r = rgtP x (chP 64 (bs.drop 4)) (chP 4 (bs.drop 2052)) := ⟨_, rfl⟩
  have hrd : r = decOk bs := by
    have hxb := unhide HXB
    by_cases h16 : x < 16
    · have e1 : rgtP x (chP 64 (bs.drop 4)) (chP 4 (bs.drop 2052)) = true := (rgtP_iff _ _ _).2 ⟨⟨hxb.1, h16⟩, ⟨chP_len _ _, chP_32 _ _ (by rw [List.length_drop]; have := unhide HL; omega)⟩, chP_len _ _, chP_32 _ _ (by rw [List.length_drop]; have := unhide HL; omega)⟩
      have e2 : decOk bs = true := by unfold decOk; rw [← unhide HX, unhide HL]; simp [h16]
      rw [hr, e1, e2]
    · have e1 : rgtP x (chP 64 (bs.drop 4)) (chP 4 (bs.drop 2052)) = false := by
        cases h : rgtP x (chP 64 (bs.drop 4)) (chP 4 (bs.drop 2052)) with
        | false => rfl
        | true => exact absurd ((rgtP_iff _ _ _).1 h).1.2 h16
      have e2 : decOk bs = false := by unfold decOk; rw [← unhide HX]; simp [h16]
      rw [hr, e1, e2]
  have HRi := hide (sright_any _ x _ _ r hr _ (unhide HV8).1)
  have HG8 := hide g8
  have HRD := hide hrd
  have HG0 : Hid ((w7.setCell ⟨g1, 2, none⟩ (.slice a7 m7 c7)).heap[w.heap.size]? = some (.cells #[.int .i64 0, .slice none 0 0, .slice none 0 0] 33)) := (((unhide HQ6).trans (hA7.mono (by simp))).trans (k8.mono (by simp))).heap (unhide HG2) (by have := unhide HGW; simp; omega)
  clear HG7 k8 g8 A7 hA7 HC6 HG6 HK6 HK7 HL5 HK56 hc5 hf5 hsz5 hsz6 hr hrd HQ4 HQ6
  go_wp2_with (refine wpList_load_row rfl 33 (.tmp 5) rfl g1 rfl 33 _ (0, 0) _ (unhide HG8) Tryd.underlying33 rfl Tryd.sigSize ?_)
  refine (unhide HRi).mono ?_
  rintro ee w9 ⟨rfl, K9⟩
  have HK9 := hide ((unhide HK8).trans K9)
  have G0 := K9.heap (unhide HG0) (by simp)
  have G9 := K9.heap (unhide HG8) (by simp)
  have HV9 : Hid (∀ (S : List Nat) w', (∀ q ∈ S, q ≤ w.heap.size) → Kp S w9 w' → SigV w' (.agg #[.int .i64 x, .slice a5 m5 c5, .slice a7 m7 c7]) x (chP 64 (bs.drop 4)) (chP 4 (bs.drop 2052))) := fun S w' hS' k' => (unhide HV8).2 S w' hS' ((K9.mono (by simp)).trans k')
  clear HRi K9 HG8 HG0 HK8 HV8 hc7 hf7
  have HG9 := hide G9
  clear G9
  cases r
  · exact absurd (unhide HRD) (by rw [unhide HOK]; decide)
  · go_wp2_with (refine wpList_load_row rfl 33 (.tmp 5) rfl g1 rfl 33 _ (0, 0) _ (unhide HG9) Tryd.underlying33 rfl Tryd.sigSize ?_; refine Hid.out ?_)
    refine hide ?_
    go_wp2_with (refine wpList_store_sig rfl (.tmp 2) (.tmp 26) rfl w.heap.size rfl _ _ _ _ _ _ G0 rfl ⟨rfl, rfl, rfl⟩ ?_; intro w4 G4 K4)
    refine bodyPost_ret (results_sig rfl _ _ w.heap.size _ _ _ (0, 0) rfl G4) rfl ?_
    refine ⟨_, rfl, fun S w' hS' k' => ?_, (unhide HK9).then K4 (by simp)⟩
    rw [← unhide HX]
    exact unhide HV9 (w.heap.size :: S) w' (fun q hq => by rcases List.mem_cons.1 hq with h | h; · omega
                                                           · exact Nat.le_of_lt (hS' q h)) ((K4.mono (by simp)).trans (k'.mono (by simp +contextual)))
end Go.Proofs.YtdioaohejoflcaaDoor
