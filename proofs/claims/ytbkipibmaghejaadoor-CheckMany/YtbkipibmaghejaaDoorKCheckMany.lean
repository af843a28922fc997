/-
  The statement CheckManyCardSaid: for all numbers and lists of numbers the law function CheckMany returns true and leaves its arguments as they were; the table hash.roundWords starts as the program's text lays it (tied). No other condition.
-/
import Derived.Test.YtbkipibmaghejaaDoorKXProg
import Derived.Test.YtbkipibmaghejaaDoorKXLaws
import Derived.Test.YtbkipibmaghejaaDoorKHSmalls
import Derived.Test.YtbkipibmaghejaaDoorTie
import Derived.Test.YtbkipibmaghejaaDoorCards
import Derived.SevenTiedAt
namespace Go.Proofs.YtbkipibmaghejaaDoor.checkMany
open Go.ChangeShapes Go.WideShapes Go.ChangeAt Go.RowKit
open Go.Proofs.YtbkipibmaghejaaDoor
set_option linter.unusedVariables false

theorem Tryd.infoSg : (Tryd.prog.info? 41).map (fun i => (i.zero, i.size, i.bytes)) = some (some (.agg #[.int .i64 0, .slice none 0 0, .int .i64 0, .slice none 0 0, .slice none 0 0]), 5, 88) := by kernel_rfl
theorem flat_at (xs : List (List Value)) (h : ∀ x ∈ xs, x.length = 5) : ∀ (i c : Nat) (hi : i < xs.length), c < 5 → xs.flatten[i * 5 + c]? = xs[i][c]? := by
  induction xs with
  | nil => intro i c hi; cases hi
  | cons x xs ih =>
    intro i c hi hc
    have hx : x.length = 5 := h x (by simp)
    cases i with
    | zero =>
      rw [List.flatten_cons, List.getElem?_append_left (by omega)]
      simp
    | succ i =>
      rw [List.flatten_cons, List.getElem?_append_right (by omega)]
      have := ih (fun y hy => h y (by simp [hy])) i c (by simpa using hi) hc
      rw [show (i + 1) * 5 + c - x.length = i * 5 + c by omega, this]
      simp
theorem flat_len (xs : List (List Value)) (h : ∀ x ∈ xs, x.length = 5) : xs.flatten.length = xs.length * 5 := by
  induction xs with
  | nil => rfl
  | cons x xs ih =>
    rw [List.flatten_cons, List.length_append, ih (fun y hy => h y (by simp [hy])), h x (by simp), List.length_cons]
    omega
/-- a row of signed checkpoints of the call's own. -/
def RowG (w : World) (base : Nat) (v : Value) (xs : List (List Value)) : Prop := w.ownsRow base 41 5 v xs.length xs.flatten ∧ ∀ x ∈ xs, x.length = 5
theorem RowG.shape {w : World} {base : Nat} {v : Value} {xs : List (List Value)} (h : RowG w base v xs) : ∃ ao c, v = .slice ao xs.length c := by
  rcases h.1.2 with ⟨rfl, h0⟩ | ⟨g, cap, cur, rfl, _⟩
  · exact ⟨none, 0, by rw [h0]⟩
  · exact ⟨_, _, rfl⟩
theorem RowG.block {w : World} {base : Nat} {v : Value} {xs : List (List Value)} (h : RowG w base v xs) : ∀ k, v.ownBlock = some k → base ≤ k ∧ k < w.heap.size ∧ ∃ cur, w.heap[k]? = some (.cells cur 41 (0, 0)) := by
  intro k hk
  rcases h.1.2 with ⟨rfl, _⟩ | ⟨g, cap, cur, rfl, hb, hg, _⟩
  · cases hk
  · cases hk; exact ⟨hb, lt_of_block hg, cur, hg⟩
theorem RowG.kept {w w' : World} {base : Nat} {v : Value} {xs : List (List Value)} {S' : List Nat} (h : RowG w base v xs) (k : Kp S' w w') (hv : ∀ i, v.ownBlock = some i → i ∉ S') : RowG w' base v xs := ⟨k.owns h.1 hv, h.2⟩
theorem RowG.off {w w' : World} {base p : Nat} {v wv : Value} {bs : List Int} {xs : List (List Value)} (h : RowG w base v xs) (hw : Wr w p wv bs) (k : Kp (p :: wv.ownBlock.toList) w w') : RowG w' base v xs := by
  refine h.kept k (fun i hi hm => ?_)
  obtain ⟨_, _, cur, hg⟩ := h.block i hi
  simp only [List.mem_cons, Option.mem_toList] at hm
  rcases hm with e | e
  · have h1 := hw.1
    rw [← e, hg] at h1
    simp at h1
  · rcases hw.2.2 with ⟨h0, _⟩ | ⟨g, cap, cur', h0, _, hg', _⟩
    · rw [h0] at e; cases e
    · rw [h0] at e
      cases e
      rw [hg] at hg'
      simp at hg'
theorem RowG.at {w : World} {base : Nat} {v : Value} {xs : List (List Value)} (h : RowG w base v xs) (h0 : 0 < xs.length) : ∃ g c, v = .slice (some ⟨g, 0, none⟩) xs.length c ∧ ∀ i (hi : i < xs.length), w.rangeAt g (i * 5) xs[i] := by
  have h1 := h.1
  rcases h1.2 with ⟨_, hz⟩ | ⟨g, cap, cur, rfl, hb, hg, _⟩
  · omega
  · refine ⟨g, cap, rfl, fun i hi j u hu => ?_⟩
    have hl : xs[i].length = 5 := h.2 _ (List.getElem_mem hi)
    have hj : j < 5 := by have := (List.getElem?_eq_some_iff.1 hu).1; omega
    rw [h1.cellAt (i * 5 + j) (by omega), flat_at xs h.2 i j hi hj]
    exact hu
/-- which ones are signed. -/
def sgK (xn : Int) (sz : List Int) (k : Nat) : Sg := sgdX xn (k : Int) (sz.getD k 0) (k : Int)
def layK (xn : Int) (sz : List Int) (k : Nat) : List Int := ((List.range k).map (fun j => (sgK xn sz j).lay)).flatten
theorem layK_succ (xn : Int) (sz : List Int) (k : Nat) : layK xn sz (k + 1) = layK xn sz k ++ (sgK xn sz k).lay := by simp [layK, List.range_succ]
theorem layK_len (xn : Int) (sz : List Int) (k : Nat) : (layK xn sz k).length = 2216 * k := by
  induction k with
  | zero => rfl
  | succ k ih => rw [layK_succ, List.length_append, ih, show (sgK xn sz k).lay.length = 2216 from Sg.lay_len (sgdX_rgt _ _ _ _)]; omega
/-- what is left when j of k are read. -/
def resK (xn : Int) (sz : List Int) (j k : Nat) : List Int := (layK xn sz k).drop (2216 * j)
theorem resK_at (xn : Int) (sz : List Int) (k : Nat) : ∀ j, j < k → resK xn sz j k = (sgK xn sz j).lay ++ resK xn sz (j + 1) k := by
  induction k with
  | zero => intro j hj; omega
  | succ k ih =>
    intro j hj
    unfold resK
    rw [layK_succ]
    have hl := layK_len xn sz k
    have hs := Sg.lay_len (sgdX_rgt xn (k : Int) (sz.getD k 0) (k : Int))
    by_cases hjk : j = k
    · subst hjk
      rw [List.drop_left' (by omega), List.drop_of_length_le (by rw [List.length_append, hl]; show _ + (sgdX _ _ _ _).lay.length ≤ _; omega), List.append_nil]
    · rw [List.drop_append_of_le_length (by omega), List.drop_append_of_le_length (by omega), ← List.append_assoc]
      congr 1
      exact ih j (by omega)
theorem resK_end (xn : Int) (sz : List Int) (k : Nat) : resK xn sz k k = [] := List.drop_of_length_le (by rw [layK_len]; omega)
theorem layK_bs (xn : Int) (sz : List Int) (h : ∀ j, Bs (sgK xn sz j).lay) (k : Nat) : Bs (layK xn sz k) := by
  induction k with
  | zero => intro b hb; cases hb
  | succ k ih => rw [layK_succ]; exact ih.append (h k)
theorem sgn_bs (seed : List Int) (key d : Int) : ∀ x ∈ sgnP seed key d, Bs x := by
  intro x hx
  obtain ⟨i, _, rfl⟩ := List.mem_map.1 hx
  exact ptP_bs seed key _ i
theorem sgK_bs (xn : Int) (sz : List Int) (j : Nat) : Bs (sgK xn sz j).lay := by
  have hi := sgdX_i (j : Int)
  refine Sg.lay_bs (sgdX_rgt _ _ _ _) (hashX_bs _) (fun x hx => ?_) (fun x hx => ?_)
  · exact sgn_bs _ _ _ x hx
  · exact (pthP_all _ _ 4 hi (by omega) x hx).2
theorem resK_bs (xn : Int) (sz : List Int) (j k : Nat) : Bs (resK xn sz j k) := fun b hb => layK_bs xn sz (sgK_bs xn sz) k b (List.mem_of_mem_drop hb)
theorem g_none : okG (false, []) = false := by decide
/-- what stands at the beginning of each round of the writing. -/
structure Wt (w : World) (p : Nat) (xn : Int) (sz : List Int) (k : Nat) (vl : Value) (wr : World) : Prop where
  ex : ∃ v xs, Wn w wr p v (layK xn sz k) ∧ RowG wr w.heap.size vl xs ∧ xs.length = k ∧ ∀ j (hj : j < xs.length) w2, Kp (p :: (v.ownBlock.toList ++ vl.ownBlock.toList)) wr w2 → SgV w2 (.agg xs[j].toArray) (sgK xn sz j)

set_option maxRecDepth 100000 in
set_option maxHeartbeats 8000000 in
theorem walk (xn : Int) (vz : Value) (sz : List Int) (w : World) (hG : Gl w) (hn : -9223372036854775808 ≤ xn ∧ xn ≤ 9223372036854775807) (hI : Ints w vz sz) :
    Calls Tryd.prog 4 #[.int .i64 xn, vz] w fun e w' => e = .returned (.bool true) ∧ Below w.heap.size w w' := by
  obtain ⟨i0, hi0, hz0, hz1, hz2⟩ := info_parts Tryd.infoSg
  have HG := hide hG
  obtain ⟨az, cz, rfl, hzl, hzb, hze⟩ := id hI
  obtain ⟨nz, hnz⟩ : ∃ k, k = sz.length := ⟨_, rfl⟩
  rw [← hnz]
  have HZC : Hid (∀ wr, Kp [] w wr → ∀ j (h : j < nz), ∃ b off, az = some ⟨b, off, none⟩ ∧ wr.cell? ⟨b, off + j, none⟩ = some (.int .i64 (sz.getD j 0))) := fun wr kr j hj => by
    have hj2 : j < sz.length := by omega
    obtain ⟨ad, e, hc⟩ := hze j hj2
    obtain ⟨ad0, e0, hc0⟩ := hze 0 (by omega)
    have ead : ad0 = ad := by rw [e] at e0; injection e0 with e0; exact e0.symm
    rw [ead, Addr.add_zero'] at hc0
    have hsp := World.cell?_spot hc0
    obtain ⟨b, off, sp⟩ := ad
    simp only at hsp
    subst hsp
    refine ⟨b, off, e, ?_⟩
    rw [Addr.add_lit] at hc
    have := kr.cell hc (by simp)
    rw [this]
    simp [List.getD, hj2]
  have HNZ : Hid (nz ≤ 9223372036854775807) := hide (by unfold maxLen at hzl; omega)
  clear hG hn hI hzl hzb hze hnz
  go_enter Tryd.func4, Tryd.ntmps4
  go_wp2_with fail
  refine (new_abs w).mono ?_
  rintro ee w1 ⟨p, rfl, W1, hp1, K1⟩
  have HW1 : Hid (Wt w p xn sz 0 (.slice none 0 0) w1) := ⟨⟨.slice none 0 0, [], ⟨W1, K1, hp1, fun k hk => by cases hk⟩, ⟨⟨rfl, .inl ⟨rfl, rfl⟩⟩, fun x hx => by cases hx⟩, rfl, fun j hj => by cases hj⟩⟩
  clear W1 hp1 K1
  go_wp2_with fail
  go_loopw [6, 7, 8, 9] (fun vl vi _ _ wr => ∃ (k : Nat) (ao : Option Addr) (ml cl : Nat), k ≤ 5 ∧ k ≤ nz ∧ vi = .int .i64 k ∧ vl = .slice ao ml cl ∧ Wt w p xn sz k vl wr) (fun _ vi _ _ _ => 5 - (intOf vi).toNat)
  case atStart => exact ⟨0, none, 0, 0, by omega, by omega, rfl, rfl, unhide HW1⟩
  case round =>
    clear HW1
    obtain ⟨k, ao, ml, cl, hk5, hkn, rfl, rfl, hwt⟩ := hrel
    obtain ⟨v, xs, hWn, hRow, hxl, hst⟩ := hwt.ex
    have HWn := hide hWn
    have HRow := hide hRow
    have HXL := hide hxl
    have HST := hide hst
    have HKr := hide hWn.2.1
    clear hwt hWn hRow hxl hst
    by_cases hlt : k < nz ∧ k < 5
    · obtain ⟨hlt1, hlt2⟩ := hlt
      have hlt1i : (k : Int) < (nz : Int) := by omega
      have hlt2i : (k : Int) < 5 := by omega
      obtain ⟨bz, oz, rfl, hcz⟩ := unhide HZC wr (unhide HKr) k hlt1
      obtain ⟨zk, hzk⟩ : ∃ z, z = sz.getD k 0 := ⟨_, rfl⟩
      rw [← hzk] at hcz
      have hC := lsigned_any xn (k : Int) zk (k : Int) wr
      have hsk : sgdX xn (k : Int) zk (k : Int) = sgK xn sz k := by rw [hzk]; rfl
      rw [hsk] at hC
      obtain ⟨s, hs⟩ : ∃ s, s = sgK xn sz k := ⟨_, rfl⟩
      rw [← hs] at hC
      have HC := hide hC
      have HSK := hide hs
      have HRG : Hid (s.rgt = true) := hide (by rw [hs]; exact sgdX_rgt _ _ _ _)
      clear hC hsk hs hzk
      go_wp2_with fail
      refine (unhide HC).mono ?_
      rintro ee w2 ⟨v2, at', mt, ct, rfl, V2, T2, K2⟩
      have hV2 := V2.v
      obtain ⟨a1, m1, c1, ap1, np1, cp1, aq1, nq1, cq1, rfl, -, -⟩ := hV2.shape
      obtain ⟨n1, hn1⟩ : ∃ n, n = s.n := ⟨_, rfl⟩
      obtain ⟨i1, hi1⟩ : ∃ n, n = s.i := ⟨_, rfl⟩
      rw [← hn1, ← hi1] at V2 ⊢
      have HV2 := hide V2
      have HK2 := hide K2
      have Ga := heap_alloc_new w2 (.cells #[.int .i64 0, .slice none 0 0, .int .i64 0, .slice none 0 0, .slice none 0 0] 41)
      have HKa : Hid (Kp [] w2 (w2.alloc (.cells #[.int .i64 0, .slice none 0 0, .int .i64 0, .slice none 0 0, .slice none 0 0] 41))) := (Kp.refl [] w2).alloc _
      clear HC V2 T2 K2 hV2 hn1 hi1 hcz
      go_wp2_with (refine wpList_store_flat rfl 41 (.tmp 8) (.tmp 38) rfl w2.heap.size 0 rfl _ _ [.int .i64 n1, .slice a1 m1 c1, .int .i64 i1, .slice ap1 np1 cp1, .slice aq1 nq1 cq1] Ga rfl (by simp) Tryd.sgdSize (by simp [Value.oneCell']) #[.int .i64 n1, .slice a1 m1 c1, .int .i64 i1, .slice ap1 np1 cp1, .slice aq1 nq1 cq1] rfl ?_; intro w3 Gw3 Kw3; refine Hid.out ?_)
      obtain ⟨g8, hg8⟩ : ∃ g, g = w2.heap.size := ⟨_, rfl⟩
      have Kw2w3 : Kp [] w2 w3 := (unhide HKa).then Kw3 (fun i hi => .inr (by simp at hi; omega))
      rw [← hg8] at Gw3 ⊢
      have HG8 := hide hg8
      have HA3 := hide ((unhide HV2).kept (S := []) (by simp) Kw2w3)
      have HK3 := hide ((unhide HK2).trans Kw2w3)
      have HG3 := hide Gw3
      have hplt : p < wr.heap.size := (unhide HWn).1.lt
      have hvlt := (unhide HWn).1.vlt
      have HSS : Hid (∀ q ∈ p :: (v.ownBlock.toList ++ (Value.slice ao ml cl).ownBlock.toList), q < wr.heap.size) := hide (fun q hq => by
        simp only [List.mem_cons, List.mem_append, Option.mem_toList] at hq
        rcases hq with e | e | e
        · omega
        · exact hvlt q e
        · exact ((unhide HRow).block q e).2.1)
      have HSB : Hid (∀ q ∈ p :: v.ownBlock.toList, q ∈ p :: (v.ownBlock.toList ++ (Value.slice ao ml cl).ownBlock.toList)) := hide (fun q hq => by
        simp only [List.mem_cons] at hq
        simp only [List.mem_cons, List.mem_append]
        rcases hq with e | e
        · exact .inl e
        · exact .inr (.inl e))
      have HPt := hide (ckput_ok p v (layK xn sz k) _ s w3 ((unhide HWn).1.kept (unhide HK3) (by simp) (by simp)) (by rw [layK_len]; omega) (unhide HA3).v (fun w' k' => unhide HA3 _ w' (unhide HSS) (k'.mono (unhide HSB))) (unhide HRG))
      have x0 : w3.cell? ⟨g8, 0, none⟩ = some (.int .i64 n1) := by rw [cell_of_row _ g8 0 _ _ _ (Gw3)]; rfl
      have x1 : w3.cell? ⟨g8, 1, none⟩ = some (.slice a1 m1 c1) := by rw [cell_of_row _ g8 1 _ _ _ (Gw3)]; rfl
      have x2 : w3.cell? ⟨g8, 2, none⟩ = some (.int .i64 i1) := by rw [cell_of_row _ g8 2 _ _ _ (Gw3)]; rfl
      have x3 : w3.cell? ⟨g8, 3, none⟩ = some (.slice ap1 np1 cp1) := by rw [cell_of_row _ g8 3 _ _ _ (Gw3)]; rfl
      have x4 : w3.cell? ⟨g8, 4, none⟩ = some (.slice aq1 nq1 cq1) := by rw [cell_of_row _ g8 4 _ _ _ (Gw3)]; rfl
      clear Ga HKa Gw3 Kw3 Kw2w3 hg8 HV2 hplt hvlt
      refine hide ?_
      go_wp2_with fail
      refine (unhide HPt).mono ?_
      rintro ee w4 ⟨rfl, v4, W4, S4⟩
      have hz8 : ∀ q ∈ p :: v.ownBlock.toList, q ≠ g8 := fun q hq => by have := unhide HSS q (unhide HSB q hq); have := unhide HG8; have := (unhide HK2).size; omega
      have G4 := S4.1.heap (unhide HG3) (fun hm => hz8 g8 hm rfl)
      have y0 : w4.cell? ⟨g8, 0, none⟩ = some (.int .i64 n1) := by rw [cell_of_row _ g8 0 _ _ _ (G4)]; rfl
      have y1 : w4.cell? ⟨g8, 1, none⟩ = some (.slice a1 m1 c1) := by rw [cell_of_row _ g8 1 _ _ _ (G4)]; rfl
      have y2 : w4.cell? ⟨g8, 2, none⟩ = some (.int .i64 i1) := by rw [cell_of_row _ g8 2 _ _ _ (G4)]; rfl
      have y3 : w4.cell? ⟨g8, 3, none⟩ = some (.slice ap1 np1 cp1) := by rw [cell_of_row _ g8 3 _ _ _ (G4)]; rfl
      have y4 : w4.cell? ⟨g8, 4, none⟩ = some (.slice aq1 nq1 cq1) := by rw [cell_of_row _ g8 4 _ _ _ (G4)]; rfl
      have Wn3 : Wn w w3 p v (layK xn sz k) := (unhide HWn).kept (unhide HK3)
      have Wn4 := Wn3.step W4 S4
      have hly : layK xn sz k ++ s.lay = layK xn sz (k + 1) := by rw [layK_succ, unhide HSK]
      rw [hly] at Wn4
      have HWn4 := hide Wn4
      have HRow4 := hide (((unhide HRow).kept (unhide HK3) (by simp)).off Wn3.1 S4.1)
      have HCASE : Hid (∀ i ∈ p :: (v4.ownBlock.toList ++ (Value.slice ao ml cl).ownBlock.toList), i ∈ p :: (v.ownBlock.toList ++ (Value.slice ao ml cl).ownBlock.toList) ∨ w3.heap.size ≤ i) := hide (fun i hi => by
        simp only [List.mem_cons, List.mem_append, Option.mem_toList] at hi ⊢
        rcases hi with e | e | e
        · exact .inl (.inl e)
        · rcases S4.2 i e with h | h
          · exact .inl (.inr (.inl h))
          · exact .inr h
        · exact .inl (.inr (.inr e)))
      have HST4 : Hid (∀ j (hj : j < xs.length) w2, Kp (p :: (v4.ownBlock.toList ++ (Value.slice ao ml cl).ownBlock.toList)) w4 w2 → SgV w2 (.agg xs[j].toArray) (sgK xn sz j)) := fun j hj w2' k2 =>
        unhide HST j hj w2' (((((unhide HK3).mono (by simp)).trans (S4.1.mono (unhide HSB)))).then k2 (fun i hi => (unhide HCASE i hi).imp id (fun h => Nat.le_trans (unhide HK3).size h)))
      have HNEW4 : Hid (∀ w2, Kp (p :: (v4.ownBlock.toList ++ (Value.slice ao ml cl).ownBlock.toList)) w4 w2 → SgV w2 (.agg #[.int .i64 n1, .slice a1 m1 c1, .int .i64 i1, .slice ap1 np1 cp1, .slice aq1 nq1 cq1]) s) := fun w2' k2 =>
        unhide HA3 _ w2' (unhide HSS) ((S4.1.mono (unhide HSB)).then k2 (fun i hi => unhide HCASE i hi))
      have hbase : w.heap.size ≤ w4.heap.size := Wn4.2.1.size
      have Gb := heap_alloc_new w4 (.cells #[.int .i64 n1, .slice a1 m1 c1, .int .i64 i1, .slice ap1 np1 cp1, .slice aq1 nq1 cq1] 41)
      have HKb : Hid (Kp [] w4 (w4.alloc (.cells #[.int .i64 n1, .slice a1 m1 c1, .int .i64 i1, .slice ap1 np1 cp1, .slice aq1 nq1 cq1] 41))) := (Kp.refl [] w4).alloc _
      have hrow5 := (unhide HRow4).kept (unhide HKb) (by simp)
      have hxl5 : xs.length ≤ 5 := by have := unhide HXL; omega
      clear HPt W4 S4 hz8 G4 Wn3 Wn4 hly HA3 HG3 x0 x1 x2 x3 x4 HWn HRow HST HSS HK2 HK3 HG8 HCASE HSB
      go_wp2_with (at_builtin; refine wpList_append_own_at _ rfl (.tmp 44) (.tmp 46) 36 rfl w.heap.size 41 i0 (.agg #[.int .i64 0, .slice none 0 0, .int .i64 0, .slice none 0 0, .slice none 0 0]) 5 88 Tryd.underlying36 hi0 hz0 hz1 hz2 rfl (by decide) _ xs.length xs.flatten rfl hrow5.1 ⟨w4.heap.size, 0, none⟩ 1 1 [.int .i64 n1, .slice a1 m1 c1, .int .i64 i1, .slice ap1 np1 cp1, .slice aq1 nq1 cq1] rfl rfl (fun j u hu => by rw [Addr.add_lit, Nat.zero_add, cell_of_row _ w4.heap.size j _ _ _ Gb]; simpa using hu) (by simp [Value.oneCell']) (by unfold maxLen; omega) (by omega) (Nat.le_trans hbase (unhide HKb).size) ?_; intro v5 w5 hown hgrow _ hat; refine Hid.out ?_)
      have K5 : Kp (Value.slice ao ml cl).ownBlock.toList (w4.alloc (.cells #[.int .i64 n1, .slice a1 m1 c1, .int .i64 i1, .slice ap1 np1 cp1, .slice aq1 nq1 cq1] 41)) w5 := (Kp.refl _ _).grown hgrow (fun k hk => .inl (Option.mem_toList.2 hk))
      obtain ⟨nl, hnl⟩ : ∃ nl : List Value, nl = [.int .i64 n1, .slice a1 m1 c1, .int .i64 i1, .slice ap1 np1 cp1, .slice aq1 nq1 cq1] := ⟨_, rfl⟩
      rw [← hnl] at hown
      have hnl5 : nl.length = 5 := by rw [hnl]; rfl
      have R5 : RowG w5 w.heap.size v5 (xs ++ [nl]) := ⟨by
        have e1 : (xs ++ [nl]).length = xs.length + 1 := by simp
        have e2 : (xs ++ [nl]).flatten = xs.flatten ++ nl := by simp
        rw [e1, e2]
        exact hown, fun x hx => by
        rcases List.mem_append.1 hx with h | h
        · exact (unhide HRow4).2 x h
        · obtain rfl : x = nl := by simpa using h
          exact hnl5⟩
      obtain ⟨a5, c5, e5⟩ := R5.shape
      have hne5 : ∀ q ∈ (Value.slice ao ml cl).ownBlock.toList, q ∉ p :: v4.ownBlock.toList := fun q hq hm => by
        have hq' : (Value.slice ao ml cl).ownBlock = some q := by simpa using hq
        obtain ⟨_, _, cur, hg⟩ := (unhide HRow4).block q hq'
        have hw := (unhide HWn4).1
        simp only [List.mem_cons, Option.mem_toList] at hm
        rcases hm with e | e
        · have h1 := hw.1
          rw [← e, hg] at h1
          simp at h1
        · rcases hw.2.2 with ⟨h0, _⟩ | ⟨g, cap, cur', h0, _, hg', _⟩
          · rw [h0] at e; cases e
          · rw [h0] at e
            cases e
            rw [hg] at hg'
            simp at hg'
      have hlw : ∀ q ∈ (Value.slice ao ml cl).ownBlock.toList, w.heap.size ≤ q := fun q hq => ((unhide HRow4).block q (by simpa using hq)).1
      have K45 : Kp (Value.slice ao ml cl).ownBlock.toList w4 w5 := ((unhide HKb).mono (by simp)).trans K5
      have Wn5 : Wn w w5 p v4 (layK xn sz (k + 1)) := ⟨(unhide HWn4).1.kept K45 (fun hm => hne5 p hm (by simp)) (fun i hi hm => hne5 i hm (by simp [hi])), (unhide HWn4).2.1.then K45 (fun i hi => .inr (hlw i hi)), (unhide HWn4).2.2.1, (unhide HWn4).2.2.2⟩
      have HC5 : Hid (∀ w2, Kp (p :: (v4.ownBlock.toList ++ v5.ownBlock.toList)) w5 w2 → Kp (p :: (v4.ownBlock.toList ++ (Value.slice ao ml cl).ownBlock.toList)) w4 w2) := fun w2' k2 => (K45.mono (fun i hi => by simp [hi])).then k2 (fun i hi => by
        simp only [List.mem_cons, List.mem_append, Option.mem_toList] at hi ⊢
        rcases hi with e | e | e
        · exact .inl (.inl e)
        · exact .inl (.inr (.inl e))
        · rcases hat with h | h
          · exact .inl (.inr (.inr (h.symm.trans e)))
          · rw [h] at e
            injection e with e
            have := (unhide HKb).size
            exact .inr (by omega))
      have HST5 : Hid (∀ j (hj : j < xs.length) w2, Kp (p :: (v4.ownBlock.toList ++ v5.ownBlock.toList)) w5 w2 → SgV w2 (.agg xs[j].toArray) (sgK xn sz j)) := fun j hj w2' k2 => unhide HST4 j hj w2' (unhide HC5 w2' k2)
      have HNEW5 : Hid (∀ w2, Kp (p :: (v4.ownBlock.toList ++ v5.ownBlock.toList)) w5 w2 → SgV w2 (.agg #[.int .i64 n1, .slice a1 m1 c1, .int .i64 i1, .slice ap1 np1 cp1, .slice aq1 nq1 cq1]) s) := fun w2' k2 => unhide HNEW4 w2' (unhide HC5 w2' k2)
      have HRES : Hid (Wt w p xn sz (k + 1) v5 w5) := by
        refine ⟨⟨v4, xs ++ [nl], Wn5, R5, by have := unhide HXL; simp; omega, fun j hj w2' k2 => ?_⟩⟩
        have hj' : j < xs.length + 1 := by simpa using hj
        by_cases hjx : j < xs.length
        · have e : (xs ++ [nl])[j] = xs[j] := List.getElem_append_left hjx
          rw [e]
          exact unhide HST5 j hjx w2' k2
        · have hje : j = xs.length := by omega
          have e : (xs ++ [nl])[j] = nl := by
            rw [List.getElem_append_right (by omega)]
            simp
          rw [e, hnl, hje, unhide HXL, ← unhide HSK]
          exact unhide HNEW5 w2' k2
      subst e5
      clear hown hgrow hat K5 R5 hnl hnl5 hne5 hlw K45 Wn5 Gb HKb hrow5 hxl5 HWn4 HRow4 HST4 HNEW4 HST5 HNEW5 HC5 y0 y1 y2 y3 y4 hbase
      refine hide ?_
      go_wp2_with fail
      go_roundw
      case rel => exact ⟨k + 1, a5, _, c5, by omega, by omega, by go_num, rfl, unhide HRES⟩
      case measure => simp [intOf]; omega
    · have hml : ml = k := by
        obtain ⟨ao', c', e⟩ := (unhide HRow).shape
        injection e with e1 e2 e3
        rw [e2]
        exact unhide HXL
      have HML := hide hml
      have HBS := hide (fun j => resK_bs xn sz j k)
      clear hml HZC
      by_cases h1 : k < nz
      · have h1i : (k : Int) < (nz : Int) := by omega
        have h2i : ¬ (k : Int) < 5 := by omega
        have HDn := hide (done_any p v (layK xn sz k) wr (unhide HWn).1 (by rw [layK_len]; omega))
        obtain ⟨dl, hdl⟩ : ∃ l, l = (layK xn sz k).length := ⟨_, rfl⟩
        rw [← hdl] at HDn
        clear hdl
        go_wp2_with fail
        refine (unhide HDn).mono ?_
        rintro ee w2 ⟨ad, cd, rfl, R2, K2⟩
        have HRd := hide (read_any _ _ w2 (Sl.of_owns R2) (by rw [layK_len]; omega))
        have HK2 := hide K2
        clear HDn R2 K2
        go_wp2_with fail
        refine (unhide HRd).mono ?_
        rintro ee w4 ⟨q, v0, rfl, hq4, R4, hv4, K4⟩
        have HR4 := hide R4
        have HQ4 := hide hq4
        have HV4 := hide (fun b hb => (hv4 b hb).2)
        have HK4 := hide K4
        clear HRd R4 hq4 hv4 K4
        go_wp2_with fail
        obtain ⟨wo, hwo⟩ : ∃ wo, wo = wr := ⟨_, rfl⟩
        subst hwo
        go_loopw [11, 12, 13] (fun vj _ _ wq => ∃ (j : Nat) (rv : Value), j ≤ k ∧ vj = .int .i64 j ∧ Rd wq q rv false (resK xn sz j k) ∧ (∀ b, rv.ownBlock = some b → b < w4.heap.size) ∧ Kp [] w2 wq ∧ w4.heap.size ≤ wq.heap.size) (fun vj _ _ _ => k - (intOf vj).toNat)
        case atStart => exact ⟨0, v0, by omega, rfl, unhide HR4, unhide HV4, unhide HK4, Nat.le_refl _⟩
        case round =>
          obtain ⟨j, rv, hjk, rfl, hRd, hrv, hKq, hsz⟩ := hrel
          have HKq := hide hKq
          have HRv := hide hrv
          have HSZ := hide hsz
          have HKwq := hide ((unhide HK2).trans hKq)
          have hml := unhide HML
          by_cases hlt : j < k
          · have hlti : (j : Int) < (ml : Int) := by omega
            have hb := lay_back (s := sgK xn sz j) (sgdX_rgt _ _ _ _) (resK xn sz (j + 1) k)
            rw [← resK_at xn sz k j hlt] at hb
            have hC := ckget_any q rv (false, resK xn sz j k) wr hRd (fun b hb => Nat.lt_of_lt_of_le (hrv b hb) hsz) (unhide HBS j) (by show (resK xn sz j k).length ≤ _; unfold resK; rw [List.length_drop, layK_len]; omega)
            rw [ansG_yes hb.1, hb.1, hb.2.1, hb.2.2] at hC
            obtain ⟨sj, hsj⟩ : ∃ s, s = sgK xn sz j := ⟨_, rfl⟩
            rw [← hsj] at hC
            have HSJ0 := hide hsj
            have HC := hide hC
            have hRw := (unhide HRow).kept (unhide HKwq) (by simp)
            obtain ⟨gl, cl', el, hra⟩ := (unhide HRow).at (by have := unhide HXL; omega)
            injection el with el1 el2 el3
            subst el1
            have hjx : j < xs.length := by have := unhide HXL; omega
            obtain ⟨xj, hxj⟩ : ∃ x, x = xs[j] := ⟨_, rfl⟩
            have HXJ0 : Hid (∀ w', Kp [] wo w' → w'.rangeAt gl (j * 5) xj) := fun w' k' t u hu => k'.cell (hra j hjx t u (by rw [← hxj]; exact hu)) (by simp)
            have HLJ0 : Hid (∀ w', Kp [] wo w' → SgV w' (.agg xj.toArray) sj) := fun w' k' => by
              rw [hxj, hsj]
              exact unhide HST j hjx w' (k'.mono (by simp))
            have HXL5 : Hid ((Tryd.prog.info? 41).map (·.size) = some xj.length) := hide (by rw [Tryd.sgdSize, hxj, (unhide HRow).2 _ (List.getElem_mem hjx)])
            have HJM : Hid (j < ml) := hide (by omega)
            clear hC hb hRd hrv hKq hsz hsj hRw hra hjx hxj el2 el3 hml hlt
            go_wp2_with fail
            refine (unhide HC).mono ?_
            rintro ee w5 ⟨v5, rfl, V5, L5⟩
            obtain ⟨a2, m2, c2, ap2, np2, cp2, aq2, nq2, cq2, rfl, -, -⟩ := V5.shape
            obtain ⟨n2, hn2⟩ : ∃ n, n = sj.n := ⟨_, rfl⟩
            obtain ⟨i2, hi2⟩ : ∃ n, n = sj.i := ⟨_, rfl⟩
            rw [← hn2, ← hi2] at V5 ⊢
            have HV5 := hide V5
            have hq4 := unhide HQ4
            have HK5 := hide ((unhide HKq).then L5.2 (fun b hb => .inr (by simp at hb; omega)))
            have HZ5 := hide (Nat.le_trans (unhide HSZ) L5.2.size)
            obtain ⟨⟨r5, R5, O5⟩, -⟩ := L5
            have HR5 := hide R5
            have HO5 := hide (fun b hb => unhide HRv b (O5 b hb))
            have Ga := heap_alloc_new w5 (.cells #[.int .i64 0, .slice none 0 0, .int .i64 0, .slice none 0 0, .slice none 0 0] 41)
            have HKa : Hid (Kp [] w5 (w5.alloc (.cells #[.int .i64 0, .slice none 0 0, .int .i64 0, .slice none 0 0, .slice none 0 0] 41))) := (Kp.refl [] w5).alloc _
            clear HC V5 R5 O5 hn2 hi2 hq4 HKwq
            go_wp2_with (refine wpList_store_flat rfl 41 (.tmp 12) (.tmp 62) rfl w5.heap.size 0 rfl _ _ [.int .i64 n2, .slice a2 m2 c2, .int .i64 i2, .slice ap2 np2 cp2, .slice aq2 nq2 cq2] Ga rfl (by simp) Tryd.sgdSize (by simp [Value.oneCell']) #[.int .i64 n2, .slice a2 m2 c2, .int .i64 i2, .slice ap2 np2 cp2, .slice aq2 nq2 cq2] rfl ?_; intro w6 Gw6 Kw6; refine Hid.out ?_)
            obtain ⟨g12, hg12⟩ : ∃ g, g = w5.heap.size := ⟨_, rfl⟩
            have Kw5w6 : Kp [] w5 w6 := (unhide HKa).then Kw6 (fun i hi => .inr (by simp at hi; omega))
            rw [← hg12] at Gw6 ⊢
            clear hg12
            have HD6 : Hid (∀ w', Kp [] w6.drew w' → Kp [] w5 w') := fun w' k' => Kw5w6.trans ((kp_drew w6).trans k')
            have HT12 : Hid (∀ w', Kp [] w6.drew w' → w'.heap[g12]? = some (.cells #[.int .i64 n2, .slice a2 m2 c2, .int .i64 i2, .slice ap2 np2 cp2, .slice aq2 nq2 cq2] 41 (0, 0))) := fun w' k' => ((kp_drew w6).trans k').heap Gw6 (by simp)
            have HSJ : Hid (∀ w', Kp [] w6.drew w' → SgV w' (.agg #[.int .i64 n2, .slice a2 m2 c2, .int .i64 i2, .slice ap2 np2 cp2, .slice aq2 nq2 cq2]) sj) := fun w' k' => (unhide HV5).kept (unhide HD6 w' k')
            have HXJ : Hid (∀ w', Kp [] w6.drew w' → w'.rangeAt gl (j * 5) xj) := fun w' k' => unhide HXJ0 w' (((unhide HK2).trans (unhide HK5)).trans (unhide HD6 w' k'))
            have HLJ : Hid (∀ w', Kp [] w6.drew w' → SgV w' (.agg xj.toArray) sj) := fun w' k' => unhide HLJ0 w' (((unhide HK2).trans (unhide HK5)).trans (unhide HD6 w' k'))
            clear Ga HKa Gw6 Kw6 Kw5w6 HV5
            refine hide ?_
            go_wp2_with fail
            refine region_grow Tryd.mixed [Is (.bool true), Is (.bool false), Is (.bool false), Is (.agg #[.int .i64 n2, .slice a2 m2 c2, .int .i64 i2, .slice ap2 np2 cp2, .slice aq2 nq2 cq2]), Is (.slice (some ⟨gl, 0, none⟩) ml cl), Is (.int .i64 (j : Int)), Is (.pointer (some ⟨gl, j * 5, none⟩)), Is (.agg xj.toArray), Is (.bool true), Is (.bool false), Is (.bool false)] [[(13, none)], [(64, some 0)], [(65, some 1)], [(12, none), (66, some 2)], [(6, none), (66, some 2)], [(11, none), (66, some 2)], [(68, some 4), (69, some 5), (66, some 2)], [(70, some 6), (66, some 2)], [(67, some 3), (71, some 7), (66, some 2)], [(72, some 8), (66, some 2)], [(66, some 2), (73, some 9)]] (by kernel_rfl) ?_ ?_ ?_
            · simp only [List.mem_cons, List.not_mem_nil, or_false]
              intro R hR
              rcases hR with rfl | rfl | rfl | rfl | rfl | rfl | rfl | rfl | rfl | rfl | rfl <;> first | exact stable_is _
            · refine steps_cons (fun a w hk hn => ?_) ?_
              · have h13 : a.eval (.tmp 13) = .bool true := hn.1
                clear hn
                refine wants_plain rfl ?_
                exact grown_move (.tmp 13) rfl h13
              refine steps_cons (fun a w hk hn => ?_) ?_
              · have h64 : a.eval (.tmp 64) = .bool true := hn.1
                clear hn
                refine wants_plain rfl ?_
                refine grown_run (v := .bool false) ?_ (Kp.refl _ _) rfl
                obtain ⟨ρ, hρ, hc, hf, hg⟩ := eval_is a
                rw [hρ] at h64 ⊢
                simp [go_sem, h64]
              refine steps_cons (fun a w hk hn => ?_) ?_
              · have h65 : a.eval (.tmp 65) = .bool false := hn.1
                clear hn
                refine wants_plain rfl ?_
                exact grown_move (.tmp 65) rfl h65
              refine steps_cons (fun a w hk hn => ?_) ?_
              · have h12 : a.eval (.tmp 12) = .pointer (some ⟨g12, 0, none⟩) := hn.1
                have h66 : a.eval (.tmp 66) = .bool false := hn.2.1
                clear hn
                refine wants_guard (d := 66) rfl rfl h66 ?_
                exact grown_loadf 41 (.tmp 12) rfl g12 0 h12 _ _ _ _ (unhide HT12 w hk) [.int .i64 n2, .slice a2 m2 c2, .int .i64 i2, .slice ap2 np2 cp2, .slice aq2 nq2 cq2] (flat_in rfl) Tryd.underlying41 rfl Tryd.sgdSize rfl
              refine steps_cons (fun a w hk hn => ?_) ?_
              · have h6 : a.eval (.tmp 6) = .slice (some ⟨gl, 0, none⟩) ml cl := hn.1
                have h66 : a.eval (.tmp 66) = .bool false := hn.2.1
                clear hn
                refine wants_guard (d := 66) rfl rfl h66 ?_
                exact grown_move (.tmp 6) rfl h6
              refine steps_cons (fun a w hk hn => ?_) ?_
              · have h11 : a.eval (.tmp 11) = .int .i64 (j : Int) := hn.1
                have h66 : a.eval (.tmp 66) = .bool false := hn.2.1
                clear hn
                refine wants_guard (d := 66) rfl rfl h66 ?_
                exact grown_move (.tmp 11) rfl h11
              refine steps_cons (fun a w hk hn => ?_) ?_
              · have h68 : a.eval (.tmp 68) = .slice (some ⟨gl, 0, none⟩) ml cl := hn.1
                have h69 : a.eval (.tmp 69) = .int .i64 (j : Int) := hn.2.1
                have h66 : a.eval (.tmp 66) = .bool false := hn.2.2.1
                clear hn
                refine wants_guard (d := 66) rfl rfl h66 ?_
                refine grown_run (v := .pointer (some ⟨gl, j * 5, none⟩)) ?_ (Kp.refl _ _) rfl
                have hjm := unhide HJM
                obtain ⟨ρ, hρ, hc, hf, hg⟩ := eval_is a
                rw [hρ] at h68 h69 ⊢
                simp [go_sem, h68, h69, hjm]
              refine steps_cons (fun a w hk hn => ?_) ?_
              · have h70 : a.eval (.tmp 70) = .pointer (some ⟨gl, j * 5, none⟩) := hn.1
                have h66 : a.eval (.tmp 66) = .bool false := hn.2.1
                clear hn
                refine wants_guard (d := 66) rfl rfl h66 ?_
                refine grown_run (v := .agg xj.toArray) ?_ (Kp.refl _ _) rfl
                unfold execOp
                simp only [h70, Instr.loadAt, Instr.sureAddr, Sem.run_bind, Sem.run_pure, Result.andThen_ok, run_loadVar_mid w gl (j * 5) 41 xj _ (unhide HXJ w hk) Tryd.underlying41 rfl (unhide HXL5)]
              refine steps_cons (fun a w hk hn => ?_) ?_
              · have h67 : a.eval (.tmp 67) = .agg #[.int .i64 n2, .slice a2 m2 c2, .int .i64 i2, .slice ap2 np2 cp2, .slice aq2 nq2 cq2] := hn.1
                have h71 : a.eval (.tmp 71) = .agg xj.toArray := hn.2.1
                have h66 : a.eval (.tmp 66) = .bool false := hn.2.2.1
                clear hn
                refine wants_guard (d := 66) rfl rfl h66 ?_
                refine grown_call (f := 18) rfl Tryd.func18 (by kernel_rfl) (by kernel_rfl) ?_
                simp only [List.map_toArray, List.map_cons, List.map_nil, h67, h71]
                refine (lequal_any _ _ sj w (unhide HSJ w hk) (unhide HLJ w hk)).mono ?_
                rintro e w' ⟨rfl, K⟩
                exact ⟨_, rfl, K, rfl⟩
              refine steps_cons (fun a w hk hn => ?_) ?_
              · have h72 : a.eval (.tmp 72) = .bool true := hn.1
                have h66 : a.eval (.tmp 66) = .bool false := hn.2.1
                clear hn
                refine wants_guard (d := 66) rfl rfl h66 ?_
                refine grown_run (v := .bool false) ?_ (Kp.refl _ _) rfl
                obtain ⟨ρ, hρ, hc, hf, hg⟩ := eval_is a
                rw [hρ] at h72 ⊢
                simp [go_sem, h72]
              refine steps_cons (fun a w hk hn => ?_) ?_
              · have h66 : a.eval (.tmp 66) = .bool false := hn.1
                have h73 : a.eval (.tmp 73) = .bool false := hn.2.1
                clear hn
                refine wants_plain rfl ?_
                exact grown_pick _ _ _ false rfl h66 h73
              exact trivial
            intro W3 hkW3
            rintro _ rfl
            rintro _ rfl
            rintro _ rfl
            rintro _ rfl
            rintro _ rfl
            rintro _ rfl
            rintro _ rfl
            rintro _ rfl
            rintro _ rfl
            rintro _ rfl
            rintro _ rfl
            refine fin_nil ?_
            simp only [Act.put, List.set_cons_zero, List.set_cons_succ, List.setIfInBounds_toArray]
            go_wp2_with fail
            go_roundw
            case rel => exact ⟨j + 1, r5, by have := unhide HML; omega, by go_num, (unhide HR5).kept (unhide HD6 W3 hkW3) (by simp) (by simp), unhide HO5, (unhide HK5).trans (unhide HD6 W3 hkW3), Nat.le_trans (unhide HZ5) (unhide HD6 W3 hkW3).size⟩
            case measure => have := unhide HML; simp [intOf]; omega
          · have hje : j = k := by omega
            have hgei : ¬ (j : Int) < (ml : Int) := by omega
            have hC := ckget_any q rv (false, resK xn sz j k) wr hRd (fun b hb => Nat.lt_of_lt_of_le (hrv b hb) hsz) (unhide HBS j) (by show (resK xn sz j k).length ≤ _; unfold resK; rw [List.length_drop, layK_len]; omega)
            rw [show resK xn sz j k = [] from by rw [hje]; exact resK_end xn sz k, ansG_no g_none, g_none] at hC
            have HC := hide hC
            clear hC hRd hrv hKq hsz hml hje hlt
            go_wp2_with fail
            refine (unhide HC).mono ?_
            rintro ee w5 ⟨v5, rfl, V5, L5⟩
            obtain ⟨a2, m2, c2, ap2, np2, cp2, aq2, nq2, cq2, rfl, -, -⟩ := V5.shape
            obtain ⟨n2, hn2⟩ : ∃ n, n = sg0.n := ⟨_, rfl⟩
            obtain ⟨i2, hi2⟩ : ∃ n, n = sg0.i := ⟨_, rfl⟩
            rw [← hn2, ← hi2]
            have hq4 := unhide HQ4
            have HK5 := hide ((unhide HKq).then L5.2 (fun b hb => .inr (by simp at hb; omega)))
            have Ga := heap_alloc_new w5 (.cells #[.int .i64 0, .slice none 0 0, .int .i64 0, .slice none 0 0, .slice none 0 0] 41)
            have HKa : Hid (Kp [] w5 (w5.alloc (.cells #[.int .i64 0, .slice none 0 0, .int .i64 0, .slice none 0 0, .slice none 0 0] 41))) := (Kp.refl [] w5).alloc _
            clear HC V5 L5 hn2 hi2 hq4
            go_wp2_with (refine wpList_store_flat rfl 41 (.tmp 14) (.tmp 78) rfl w5.heap.size 0 rfl _ _ [.int .i64 n2, .slice a2 m2 c2, .int .i64 i2, .slice ap2 np2 cp2, .slice aq2 nq2 cq2] Ga rfl (by simp) Tryd.sgdSize (by simp [Value.oneCell']) #[.int .i64 n2, .slice a2 m2 c2, .int .i64 i2, .slice ap2 np2 cp2, .slice aq2 nq2 cq2] rfl ?_; intro w6 Gw6 Kw6; refine Hid.out ?_)
            obtain ⟨g14, hg14⟩ : ∃ g, g = w5.heap.size := ⟨_, rfl⟩
            have Kw5w6 : Kp [] w5 w6 := (unhide HKa).then Kw6 (fun i hi => .inr (by simp at hi; omega))
            rw [← hg14] at Gw6 ⊢
            clear hg14
            have HK6 := hide (((((unhide HKr).trans (unhide HK2)).trans (unhide HK5))).trans Kw5w6)
            have HKn := hide (xknown_any w6 ((unhide HG).kept (unhide HK6) (by simp)))
            clear Ga HKa Gw6 Kw6 Kw5w6
            refine hide ?_
            go_wp2_with fail
            refine (unhide HKn).mono ?_
            rintro ee w7 ⟨rfl, K7⟩
            have HK7 := hide ((unhide HK6).trans K7)
            clear HKn K7
            go_wp2_with fail
            go_ret
            exact ⟨rfl, (unhide HK7).below (Nat.le_refl _) (by simp)⟩
      · have h1i : ¬ (k : Int) < (nz : Int) := by omega
        have HDn := hide (done_any p v (layK xn sz k) wr (unhide HWn).1 (by rw [layK_len]; omega))
        obtain ⟨dl, hdl⟩ : ∃ l, l = (layK xn sz k).length := ⟨_, rfl⟩
        rw [← hdl] at HDn
        clear hdl
        go_wp2_with fail
        refine (unhide HDn).mono ?_
        rintro ee w2 ⟨ad, cd, rfl, R2, K2⟩
        have HRd := hide (read_any _ _ w2 (Sl.of_owns R2) (by rw [layK_len]; omega))
        have HK2 := hide K2
        clear HDn R2 K2
        go_wp2_with fail
        refine (unhide HRd).mono ?_
        rintro ee w4 ⟨q, v0, rfl, hq4, R4, hv4, K4⟩
        have HR4 := hide R4
        have HQ4 := hide hq4
        have HV4 := hide (fun b hb => (hv4 b hb).2)
        have HK4 := hide K4
        clear HRd R4 hq4 hv4 K4
        go_wp2_with fail
        obtain ⟨wo, hwo⟩ : ∃ wo, wo = wr := ⟨_, rfl⟩
        subst hwo
        go_loopw [11, 12, 13] (fun vj _ _ wq => ∃ (j : Nat) (rv : Value), j ≤ k ∧ vj = .int .i64 j ∧ Rd wq q rv false (resK xn sz j k) ∧ (∀ b, rv.ownBlock = some b → b < w4.heap.size) ∧ Kp [] w2 wq ∧ w4.heap.size ≤ wq.heap.size) (fun vj _ _ _ => k - (intOf vj).toNat)
        case atStart => exact ⟨0, v0, by omega, rfl, unhide HR4, unhide HV4, unhide HK4, Nat.le_refl _⟩
        case round =>
          obtain ⟨j, rv, hjk, rfl, hRd, hrv, hKq, hsz⟩ := hrel
          have HKq := hide hKq
          have HRv := hide hrv
          have HSZ := hide hsz
          have HKwq := hide ((unhide HK2).trans hKq)
          have hml := unhide HML
          by_cases hlt : j < k
          · have hlti : (j : Int) < (ml : Int) := by omega
            have hb := lay_back (s := sgK xn sz j) (sgdX_rgt _ _ _ _) (resK xn sz (j + 1) k)
            rw [← resK_at xn sz k j hlt] at hb
            have hC := ckget_any q rv (false, resK xn sz j k) wr hRd (fun b hb => Nat.lt_of_lt_of_le (hrv b hb) hsz) (unhide HBS j) (by show (resK xn sz j k).length ≤ _; unfold resK; rw [List.length_drop, layK_len]; omega)
            rw [ansG_yes hb.1, hb.1, hb.2.1, hb.2.2] at hC
            obtain ⟨sj, hsj⟩ : ∃ s, s = sgK xn sz j := ⟨_, rfl⟩
            rw [← hsj] at hC
            have HSJ0 := hide hsj
            have HC := hide hC
            have hRw := (unhide HRow).kept (unhide HKwq) (by simp)
            obtain ⟨gl, cl', el, hra⟩ := (unhide HRow).at (by have := unhide HXL; omega)
            injection el with el1 el2 el3
            subst el1
            have hjx : j < xs.length := by have := unhide HXL; omega
            obtain ⟨xj, hxj⟩ : ∃ x, x = xs[j] := ⟨_, rfl⟩
            have HXJ0 : Hid (∀ w', Kp [] wo w' → w'.rangeAt gl (j * 5) xj) := fun w' k' t u hu => k'.cell (hra j hjx t u (by rw [← hxj]; exact hu)) (by simp)
            have HLJ0 : Hid (∀ w', Kp [] wo w' → SgV w' (.agg xj.toArray) sj) := fun w' k' => by
              rw [hxj, hsj]
              exact unhide HST j hjx w' (k'.mono (by simp))
            have HXL5 : Hid ((Tryd.prog.info? 41).map (·.size) = some xj.length) := hide (by rw [Tryd.sgdSize, hxj, (unhide HRow).2 _ (List.getElem_mem hjx)])
            have HJM : Hid (j < ml) := hide (by omega)
            clear hC hb hRd hrv hKq hsz hsj hRw hra hjx hxj el2 el3 hml hlt
            go_wp2_with fail
            refine (unhide HC).mono ?_
            rintro ee w5 ⟨v5, rfl, V5, L5⟩
            obtain ⟨a2, m2, c2, ap2, np2, cp2, aq2, nq2, cq2, rfl, -, -⟩ := V5.shape
            obtain ⟨n2, hn2⟩ : ∃ n, n = sj.n := ⟨_, rfl⟩
            obtain ⟨i2, hi2⟩ : ∃ n, n = sj.i := ⟨_, rfl⟩
            rw [← hn2, ← hi2] at V5 ⊢
            have HV5 := hide V5
            have hq4 := unhide HQ4
            have HK5 := hide ((unhide HKq).then L5.2 (fun b hb => .inr (by simp at hb; omega)))
            have HZ5 := hide (Nat.le_trans (unhide HSZ) L5.2.size)
            obtain ⟨⟨r5, R5, O5⟩, -⟩ := L5
            have HR5 := hide R5
            have HO5 := hide (fun b hb => unhide HRv b (O5 b hb))
            have Ga := heap_alloc_new w5 (.cells #[.int .i64 0, .slice none 0 0, .int .i64 0, .slice none 0 0, .slice none 0 0] 41)
            have HKa : Hid (Kp [] w5 (w5.alloc (.cells #[.int .i64 0, .slice none 0 0, .int .i64 0, .slice none 0 0, .slice none 0 0] 41))) := (Kp.refl [] w5).alloc _
            clear HC V5 R5 O5 hn2 hi2 hq4 HKwq
            go_wp2_with (refine wpList_store_flat rfl 41 (.tmp 12) (.tmp 62) rfl w5.heap.size 0 rfl _ _ [.int .i64 n2, .slice a2 m2 c2, .int .i64 i2, .slice ap2 np2 cp2, .slice aq2 nq2 cq2] Ga rfl (by simp) Tryd.sgdSize (by simp [Value.oneCell']) #[.int .i64 n2, .slice a2 m2 c2, .int .i64 i2, .slice ap2 np2 cp2, .slice aq2 nq2 cq2] rfl ?_; intro w6 Gw6 Kw6; refine Hid.out ?_)
            obtain ⟨g12, hg12⟩ : ∃ g, g = w5.heap.size := ⟨_, rfl⟩
            have Kw5w6 : Kp [] w5 w6 := (unhide HKa).then Kw6 (fun i hi => .inr (by simp at hi; omega))
            rw [← hg12] at Gw6 ⊢
            clear hg12
            have HD6 : Hid (∀ w', Kp [] w6.drew w' → Kp [] w5 w') := fun w' k' => Kw5w6.trans ((kp_drew w6).trans k')
            have HT12 : Hid (∀ w', Kp [] w6.drew w' → w'.heap[g12]? = some (.cells #[.int .i64 n2, .slice a2 m2 c2, .int .i64 i2, .slice ap2 np2 cp2, .slice aq2 nq2 cq2] 41 (0, 0))) := fun w' k' => ((kp_drew w6).trans k').heap Gw6 (by simp)
            have HSJ : Hid (∀ w', Kp [] w6.drew w' → SgV w' (.agg #[.int .i64 n2, .slice a2 m2 c2, .int .i64 i2, .slice ap2 np2 cp2, .slice aq2 nq2 cq2]) sj) := fun w' k' => (unhide HV5).kept (unhide HD6 w' k')
            have HXJ : Hid (∀ w', Kp [] w6.drew w' → w'.rangeAt gl (j * 5) xj) := fun w' k' => unhide HXJ0 w' (((unhide HK2).trans (unhide HK5)).trans (unhide HD6 w' k'))
            have HLJ : Hid (∀ w', Kp [] w6.drew w' → SgV w' (.agg xj.toArray) sj) := fun w' k' => unhide HLJ0 w' (((unhide HK2).trans (unhide HK5)).trans (unhide HD6 w' k'))
            clear Ga HKa Gw6 Kw6 Kw5w6 HV5
            refine hide ?_
            go_wp2_with fail
            refine region_grow Tryd.mixed [Is (.bool true), Is (.bool false), Is (.bool false), Is (.agg #[.int .i64 n2, .slice a2 m2 c2, .int .i64 i2, .slice ap2 np2 cp2, .slice aq2 nq2 cq2]), Is (.slice (some ⟨gl, 0, none⟩) ml cl), Is (.int .i64 (j : Int)), Is (.pointer (some ⟨gl, j * 5, none⟩)), Is (.agg xj.toArray), Is (.bool true), Is (.bool false), Is (.bool false)] [[(13, none)], [(64, some 0)], [(65, some 1)], [(12, none), (66, some 2)], [(6, none), (66, some 2)], [(11, none), (66, some 2)], [(68, some 4), (69, some 5), (66, some 2)], [(70, some 6), (66, some 2)], [(67, some 3), (71, some 7), (66, some 2)], [(72, some 8), (66, some 2)], [(66, some 2), (73, some 9)]] (by kernel_rfl) ?_ ?_ ?_
            · simp only [List.mem_cons, List.not_mem_nil, or_false]
              intro R hR
              rcases hR with rfl | rfl | rfl | rfl | rfl | rfl | rfl | rfl | rfl | rfl | rfl <;> first | exact stable_is _
            · refine steps_cons (fun a w hk hn => ?_) ?_
              · have h13 : a.eval (.tmp 13) = .bool true := hn.1
                clear hn
                refine wants_plain rfl ?_
                exact grown_move (.tmp 13) rfl h13
              refine steps_cons (fun a w hk hn => ?_) ?_
              · have h64 : a.eval (.tmp 64) = .bool true := hn.1
                clear hn
                refine wants_plain rfl ?_
                refine grown_run (v := .bool false) ?_ (Kp.refl _ _) rfl
                obtain ⟨ρ, hρ, hc, hf, hg⟩ := eval_is a
                rw [hρ] at h64 ⊢
                simp [go_sem, h64]
              refine steps_cons (fun a w hk hn => ?_) ?_
              · have h65 : a.eval (.tmp 65) = .bool false := hn.1
                clear hn
                refine wants_plain rfl ?_
                exact grown_move (.tmp 65) rfl h65
              refine steps_cons (fun a w hk hn => ?_) ?_
              · have h12 : a.eval (.tmp 12) = .pointer (some ⟨g12, 0, none⟩) := hn.1
                have h66 : a.eval (.tmp 66) = .bool false := hn.2.1
                clear hn
                refine wants_guard (d := 66) rfl rfl h66 ?_
                exact grown_loadf 41 (.tmp 12) rfl g12 0 h12 _ _ _ _ (unhide HT12 w hk) [.int .i64 n2, .slice a2 m2 c2, .int .i64 i2, .slice ap2 np2 cp2, .slice aq2 nq2 cq2] (flat_in rfl) Tryd.underlying41 rfl Tryd.sgdSize rfl
              refine steps_cons (fun a w hk hn => ?_) ?_
              · have h6 : a.eval (.tmp 6) = .slice (some ⟨gl, 0, none⟩) ml cl := hn.1
                have h66 : a.eval (.tmp 66) = .bool false := hn.2.1
                clear hn
                refine wants_guard (d := 66) rfl rfl h66 ?_
                exact grown_move (.tmp 6) rfl h6
              refine steps_cons (fun a w hk hn => ?_) ?_
              · have h11 : a.eval (.tmp 11) = .int .i64 (j : Int) := hn.1
                have h66 : a.eval (.tmp 66) = .bool false := hn.2.1
                clear hn
                refine wants_guard (d := 66) rfl rfl h66 ?_
                exact grown_move (.tmp 11) rfl h11
              refine steps_cons (fun a w hk hn => ?_) ?_
              · have h68 : a.eval (.tmp 68) = .slice (some ⟨gl, 0, none⟩) ml cl := hn.1
                have h69 : a.eval (.tmp 69) = .int .i64 (j : Int) := hn.2.1
                have h66 : a.eval (.tmp 66) = .bool false := hn.2.2.1
                clear hn
                refine wants_guard (d := 66) rfl rfl h66 ?_
                refine grown_run (v := .pointer (some ⟨gl, j * 5, none⟩)) ?_ (Kp.refl _ _) rfl
                have hjm := unhide HJM
                obtain ⟨ρ, hρ, hc, hf, hg⟩ := eval_is a
                rw [hρ] at h68 h69 ⊢
                simp [go_sem, h68, h69, hjm]
              refine steps_cons (fun a w hk hn => ?_) ?_
              · have h70 : a.eval (.tmp 70) = .pointer (some ⟨gl, j * 5, none⟩) := hn.1
                have h66 : a.eval (.tmp 66) = .bool false := hn.2.1
                clear hn
                refine wants_guard (d := 66) rfl rfl h66 ?_
                refine grown_run (v := .agg xj.toArray) ?_ (Kp.refl _ _) rfl
                unfold execOp
                simp only [h70, Instr.loadAt, Instr.sureAddr, Sem.run_bind, Sem.run_pure, Result.andThen_ok, run_loadVar_mid w gl (j * 5) 41 xj _ (unhide HXJ w hk) Tryd.underlying41 rfl (unhide HXL5)]
              refine steps_cons (fun a w hk hn => ?_) ?_
              · have h67 : a.eval (.tmp 67) = .agg #[.int .i64 n2, .slice a2 m2 c2, .int .i64 i2, .slice ap2 np2 cp2, .slice aq2 nq2 cq2] := hn.1
                have h71 : a.eval (.tmp 71) = .agg xj.toArray := hn.2.1
                have h66 : a.eval (.tmp 66) = .bool false := hn.2.2.1
                clear hn
                refine wants_guard (d := 66) rfl rfl h66 ?_
                refine grown_call (f := 18) rfl Tryd.func18 (by kernel_rfl) (by kernel_rfl) ?_
                simp only [List.map_toArray, List.map_cons, List.map_nil, h67, h71]
                refine (lequal_any _ _ sj w (unhide HSJ w hk) (unhide HLJ w hk)).mono ?_
                rintro e w' ⟨rfl, K⟩
                exact ⟨_, rfl, K, rfl⟩
              refine steps_cons (fun a w hk hn => ?_) ?_
              · have h72 : a.eval (.tmp 72) = .bool true := hn.1
                have h66 : a.eval (.tmp 66) = .bool false := hn.2.1
                clear hn
                refine wants_guard (d := 66) rfl rfl h66 ?_
                refine grown_run (v := .bool false) ?_ (Kp.refl _ _) rfl
                obtain ⟨ρ, hρ, hc, hf, hg⟩ := eval_is a
                rw [hρ] at h72 ⊢
                simp [go_sem, h72]
              refine steps_cons (fun a w hk hn => ?_) ?_
              · have h66 : a.eval (.tmp 66) = .bool false := hn.1
                have h73 : a.eval (.tmp 73) = .bool false := hn.2.1
                clear hn
                refine wants_plain rfl ?_
                exact grown_pick _ _ _ false rfl h66 h73
              exact trivial
            intro W3 hkW3
            rintro _ rfl
            rintro _ rfl
            rintro _ rfl
            rintro _ rfl
            rintro _ rfl
            rintro _ rfl
            rintro _ rfl
            rintro _ rfl
            rintro _ rfl
            rintro _ rfl
            rintro _ rfl
            refine fin_nil ?_
            simp only [Act.put, List.set_cons_zero, List.set_cons_succ, List.setIfInBounds_toArray]
            go_wp2_with fail
            go_roundw
            case rel => exact ⟨j + 1, r5, by have := unhide HML; omega, by go_num, (unhide HR5).kept (unhide HD6 W3 hkW3) (by simp) (by simp), unhide HO5, (unhide HK5).trans (unhide HD6 W3 hkW3), Nat.le_trans (unhide HZ5) (unhide HD6 W3 hkW3).size⟩
            case measure => have := unhide HML; simp [intOf]; omega
          · have hje : j = k := by omega
            have hgei : ¬ (j : Int) < (ml : Int) := by omega
            have hC := ckget_any q rv (false, resK xn sz j k) wr hRd (fun b hb => Nat.lt_of_lt_of_le (hrv b hb) hsz) (unhide HBS j) (by show (resK xn sz j k).length ≤ _; unfold resK; rw [List.length_drop, layK_len]; omega)
            rw [show resK xn sz j k = [] from by rw [hje]; exact resK_end xn sz k, ansG_no g_none, g_none] at hC
            have HC := hide hC
            clear hC hRd hrv hKq hsz hml hje hlt
            go_wp2_with fail
            refine (unhide HC).mono ?_
            rintro ee w5 ⟨v5, rfl, V5, L5⟩
            obtain ⟨a2, m2, c2, ap2, np2, cp2, aq2, nq2, cq2, rfl, -, -⟩ := V5.shape
            obtain ⟨n2, hn2⟩ : ∃ n, n = sg0.n := ⟨_, rfl⟩
            obtain ⟨i2, hi2⟩ : ∃ n, n = sg0.i := ⟨_, rfl⟩
            rw [← hn2, ← hi2]
            have hq4 := unhide HQ4
            have HK5 := hide ((unhide HKq).then L5.2 (fun b hb => .inr (by simp at hb; omega)))
            have Ga := heap_alloc_new w5 (.cells #[.int .i64 0, .slice none 0 0, .int .i64 0, .slice none 0 0, .slice none 0 0] 41)
            have HKa : Hid (Kp [] w5 (w5.alloc (.cells #[.int .i64 0, .slice none 0 0, .int .i64 0, .slice none 0 0, .slice none 0 0] 41))) := (Kp.refl [] w5).alloc _
            clear HC V5 L5 hn2 hi2 hq4
            go_wp2_with (refine wpList_store_flat rfl 41 (.tmp 14) (.tmp 78) rfl w5.heap.size 0 rfl _ _ [.int .i64 n2, .slice a2 m2 c2, .int .i64 i2, .slice ap2 np2 cp2, .slice aq2 nq2 cq2] Ga rfl (by simp) Tryd.sgdSize (by simp [Value.oneCell']) #[.int .i64 n2, .slice a2 m2 c2, .int .i64 i2, .slice ap2 np2 cp2, .slice aq2 nq2 cq2] rfl ?_; intro w6 Gw6 Kw6; refine Hid.out ?_)
            obtain ⟨g14, hg14⟩ : ∃ g, g = w5.heap.size := ⟨_, rfl⟩
            have Kw5w6 : Kp [] w5 w6 := (unhide HKa).then Kw6 (fun i hi => .inr (by simp at hi; omega))
            rw [← hg14] at Gw6 ⊢
            clear hg14
            have HK6 := hide (((((unhide HKr).trans (unhide HK2)).trans (unhide HK5))).trans Kw5w6)
            have HKn := hide (xknown_any w6 ((unhide HG).kept (unhide HK6) (by simp)))
            clear Ga HKa Gw6 Kw6 Kw5w6
            refine hide ?_
            go_wp2_with fail
            refine (unhide HKn).mono ?_
            rintro ee w7 ⟨rfl, K7⟩
            have HK7 := hide ((unhide HK6).trans K7)
            clear HKn K7
            go_wp2_with fail
            go_ret
            exact ⟨rfl, (unhide HK7).below (Nat.le_refl _) (by simp)⟩

set_option maxRecDepth 100000 in
theorem lifted (os : Os) (started : os.Started) (H : Type) (enc : TypeId × Value → H) :
    ReturnsInHanded {} Tryd.checked os 4 .any (fun w args => (Rows.checkManySpec.pre enc Tryd.prog Tryd.f4 [] false w args ∧ laidMetH Tryd.prog laid1 w) ∧ sizedMet enc Tryd.prog Tryd.f4 (OpenSpec.ofChange Rows.checkManySpec) false w args) (Rows.checkManySpec.post enc Tryd.prog Tryd.f4 false true false false) := by
  refine returnsInHanded_of_change_and (C := Tryd.checked) (X := fun w _ => laidMetH Tryd.prog laid1 w) (fun _ _ _ hh h => h.of_heap hh) own started (by kernel_rfl) Tryd.func4
    (ChangeSpec.witness_shaped (enc := enc) (C := Tryd.checked) (os := os) (X := fun w _ => laidMetH Tryd.prog laid1 w) false (World.doorLaid Tryd.prog 400 os) #[.int .i64 0, .slice none 0 0] 8 rfl (World.shaped_of_RefB (by kernel_rfl) (by kernel_rfl)) (by kernel_rfl) (by kernel_rfl) (by kernel_rfl) (door_met os _)) ?_
  intro W base args ds gs before hval0 hW hcnd hsz0 hL _
  have hG := gl_of_laid hL
  have hval : ∀ (j : Nat) t v, Tryd.f4.params[j]? = some t → args[j]? = some v → Value.okWide Tryd.prog W .any base t v := hval0
  have hW' := hW
  obtain ⟨p, q, hA0, hV, rfl, hfz, hnd⟩ := hW
  have hA : DataW.TrodAll enc Tryd.prog W 0 (fun _ => true) true Tryd.f4.params.toList args.toList ds p := hA0
  rw [Tryd.params4] at hA hval
  obtain ⟨v0, vs0, d0, ds0, p0, q0, hargs, rfl, rfl, h0, r0⟩ := trodAll_cons hA
  obtain ⟨v1, vs1, d1, ds1, p1, q1, rfl, rfl, rfl, h1, r1⟩ := trodAll_cons r0
  obtain ⟨rfl, rfl, rfl⟩ := trodAll_nil r1
  obtain rfl : args = #[v0, v1] := by cases args; simp_all
  obtain ⟨rfl, rfl⟩ := trodVars_none hV
  obtain ⟨a0, rfl, rfl, rfl, w0⟩ := open_int Tryd.underlying3 (hval 0 3 v0 rfl rfl) h0
  obtain ⟨a1, len1, cap1, rfl⟩ := okWide_slice Tryd.underlying33 (hval 1 33 v1 rfl rfl)
  have k1 := h1
  have lt1 : ∀ x ∈ p1, x.block < W.heap.size := by obtain ⟨m, hm⟩ := k1; exact DataW.trod_lt m _ _ _ hm
  obtain ⟨l1, s1⟩ : ∃ l, Ints W (.slice a1 len1 cap1) l := by
    obtain ⟨fuel, hf⟩ := h1
    exact ints_of_trod (by simpa [Value.cells] using hf)
  clear hA0 hval0
  refine (walk a0 (.slice a1 len1 cap1) l1 W hG (bounds_i64 w0) s1).mono fun e W' ⟨he, bel⟩ => ?_
  subst he
  exact ⟨_, rfl, _, _, _, [], _, [], hW', trodAll_mk1 (shut_bool Tryd.underlying4 _), (trodAll_cons_mk (shut_int Tryd.underlying3 w0) (trodAll_cons_mk (Below.trod laidOut (by kernel_rfl) (of_decide_eq_true (by kernel_rfl)) k1 bel lt1) trodAll_mk0)), rfl, bel.frame _, fun h => by cases h⟩

theorem over : Rows.checkManyRow.holds Tryd.pinned (OpenSpec.ofChange Rows.checkManySpec) :=
  OpenClaim.holds_of_wide 4 Tryd.f4 rfl rfl rfl rfl rfl rfl rfl ⟨rfl, rfl, rfl, rfl, rfl⟩ rfl rfl rfl rfl rfl (by kernel_rfl) Tryd.func4 (by kernel_rfl)
    (of_decide_eq_true (by kernel_rfl)) (by unfold Func.isWrapper; first | (rw [if_pos (by decide +kernel)]; kernel_rfl) | (rw [if_neg (by decide +kernel)]; exact ⟨rfl, rfl⟩))
    (fun os started H enc _ => lifted os started H enc)
end Go.Proofs.YtbkipibmaghejaaDoor.checkMany

namespace Go.Proofs.YtbkipibmaghejaaDoor
/-- The given statement: the tied card. -/
theorem CheckMany_holds : Rows.CheckManyCardSaid :=
  Claim7.holds_tied_plain_at .later [] [.data] true Rows.checkManyCard.stood.harness false
    checkMany.over (fun _ h => by cases h) (by kernel_rfl) (fun _ h => by cases h) checkMany_row_tie rfl ⟨rfl, rfl⟩ (by kernel_rfl) rfl
    (fun f fn hf hfn => by
      obtain rfl : f = 4 := Option.some.inj ((show Tryd.prog.funcNamed "broadsheet/broadsheetlaw10.CheckMany" = some 4 by kernel_rfl).symm.trans hf) |>.symm
      obtain rfl : fn = Tryd.f4 := (Option.some.inj (Tryd.func4.symm.trans hfn)).symm
      exact ⟨by kernel_rfl, fun j t ht => by
        rw [Tryd.params4] at ht
        have hm : t ∈ ([3, 33] : List TypeId) := by simpa using Array.mem_of_getElem? ht
        have hall : (([3, 33] : List TypeId).all fun u => !Tryd.prog.wantsStandIn u) = true := by kernel_rfl
        exact (show Tryd.prog.wantsStandIn t = false by simpa using List.all_eq_true.1 hall t hm)⟩)
    (by kernel_rfl)
#print axioms CheckMany_holds
end Go.Proofs.YtbkipibmaghejaaDoor
