/-
  What JournalTorn stands on.
-/
import Derived.Test.YtmpjgbckehnkjaaKJDuo
import Derived.Test.YtmpjgbckehnkjaaKDDown
import Derived.Test.YtmpjgbckehnkjaaKRGrowTwo
namespace Go.Proofs.Ytmpjgbckehnkjaa
open Go.RowKit
open Go.Proofs
set_option linter.unusedVariables false
/-- a row of the call's own. -/
def RowJ (base : Nat) (X : List Int) : Tell := fun v w => Row w base v X
theorem stable_rowj (base : Nat) (X : List Int) : Tell.stable (RowJ base X) := fun _ _ _ k h => h.kept k (by simp)
/-- records, and a piece of one more behind them. -/
theorem opnP_piece (ls : List (List Int)) (r : List Int) (q : Nat) (hl : ∀ x ∈ ls, x.length ≤ 65535) (hr : r.length ≤ 65535) (hq : q < 8 + r.length) : opnP (layP ls ++ (recP r).take q) = (ls, (layP ls).length, true) := by
  rw [opnP_lay ls _ hl, opnP_cut r q hr hq]
  simp
theorem opn_piece (ls : List (List Int)) (r : List Int) (q : Nat) (hl : ∀ x ∈ ls, x.length ≤ 65535) (hr : r.length ≤ 65535) (hq : q < 8 + r.length) : (dkOn (layP ls ++ (recP r).take q)).opn = dkOn (layP ls) := by
  have e := opnP_piece ls r q hl hr hq
  unfold Dk.opn
  have hb : (dkOn (layP ls ++ (recP r).take q)).bs = layP ls ++ (recP r).take q := rfl
  rw [hb, e]
  simp only []
  split
  · rw [List.take_left' rfl]; rfl
  · rename_i h
    have h0 : ((recP r).take q).length = 0 := by rw [List.length_append] at h; omega
    rw [List.eq_nil_of_length_eq_zero h0, List.append_nil]
/-- what holds while the first part goes on: the journal is at d0, behind the operation iA at d1; behind iL and ahead of iM the slot sL is a row of its own that reads as L; behind iM and ahead of iA so does the slot sM. -/
structure GJ (w0 : World) (p j : Nat) (d0 d1 : Dk) (n0 n1 : Nat) (iA iL iM sL sM : Nat) (L : List Int) (listed : Array Bool) (a : Act) (w : World) : Prop where
  jn : ∃ v, Jn w0 w p v (if listed.getD iA false = true then d1 else d0) j (if listed.getD iA false = true then n1 else n0) ∧ (listed.getD iL false = true → listed.getD iM false = false → ∃ g c, a.eval (.tmp sL) = .slice (some ⟨g, 0, none⟩) L.length c ∧ Sl w (.slice (some ⟨g, 0, none⟩) L.length c) L ∧ g ∉ j :: dfp p v ∧ w0.heap.size ≤ g)
  sz : sL < a.tmps.size ∧ sM < a.tmps.size
  lt : listed.getD iM false = true → listed.getD iA false = false → Sl w (a.eval (.tmp sM)) L
section
variable {w0 : World} {p j : Nat} {d0 d1 : Dk} {n0 n1 : Nat} {iA iL iM sL sM : Nat} {L : List Int} {listed : Array Bool} {a : Act} {w w' : World}
theorem GJ.kp (h : GJ w0 p j d0 d1 n0 n1 iA iL iM sL sM L listed a w) : Kp [] w0 w := by obtain ⟨v, h1, _⟩ := h.jn; exact h1.nw.kp
theorem GJ.at1 (h : GJ w0 p j d0 d1 n0 n1 iA iL iM sL sM L listed a w) (hA : listed.getD iA false = true) : ∃ v, Jn w0 w p v d1 j n1 := by
  obtain ⟨v, h1, _⟩ := h.jn
  rw [if_pos hA, if_pos hA] at h1
  exact ⟨v, h1⟩
theorem GJ.start {v : Value} {n : Nat} (h : Jn w0 w p v d0 j n0) (hs : sL < a.tmps.size ∧ sM < a.tmps.size) : GJ w0 p j d0 d1 n0 n1 iA iL iM sL sM L (Array.replicate n false) a w := by
  have hf : ∀ i, (Array.replicate n false).getD i false = false := fun i => by
    rw [Array.getD_eq_getD_getElem?]
    by_cases hi : i < n <;> simp [hi]
  exact ⟨⟨v, by rw [if_neg (by rw [hf]; decide), if_neg (by rw [hf]; decide)]; exact h, fun e => by rw [hf] at e; cases e⟩, hs, fun e => by rw [hf] at e; cases e⟩
theorem GJ.free (h : GJ w0 p j d0 d1 n0 n1 iA iL iM sL sM L listed a w) (k : Nat) (hk : k ≠ iA ∧ k ≠ iL ∧ k ≠ iM) (d : Tmp) (hd : d ≠ sL ∧ d ≠ sM) (v : Value) (K : Kp [] w w') : GJ w0 p j d0 d1 n0 n1 iA iL iM sL sM L (listed.setIfInBounds k true) (a.put (some d) v) w' := by
  obtain ⟨x, h1, h2⟩ := h.jn
  refine ⟨⟨x, ?_, fun e1 e2 => ?_⟩, by rw [put_size]; exact h.sz, fun e1 e2 => ?_⟩
  · rw [getD_set_neM hk.1]; exact h1.on K
  · rw [getD_set_neM hk.2.1] at e1
    rw [getD_set_neM hk.2.2] at e2
    obtain ⟨g, c, q1, q2, q3, q4⟩ := h2 e1 e2
    exact ⟨g, c, by rw [eval_put_other hd.1]; exact q1, q2.kept K (by simp), q3, q4⟩
  · rw [getD_set_neM hk.2.2] at e1
    rw [getD_set_neM hk.1] at e2
    rw [eval_put_other hd.2]
    exact (h.lt e1 e2).kept K (by simp)
theorem GJ.add {ops : Array Oper} {o : Oper} (h : GJ w0 p j d0 d1 n0 n1 iA iL iM sL sM L listed a w) (hnA : listed.getD iA false = false) (hsz : iA < listed.size) (hM : listed.getD iM false = true) (hi : iA ≠ iL ∧ iA ≠ iM)
    (hw : Region.wanted o (yielded ops a.tmps) = true) (x : Operand) {ats : Array TypeId} (ho : o.op = .call { callee := .value (.func 13), args := #[x, .tmp sM], argTypes := ats }) (d : Tmp) (hdst : o.dst = some d) (hd : d ≠ sL ∧ d ≠ sM) (hx : a.eval x = .pointer (some ⟨j, 0, none⟩)) (hB : Bs L) (hl : L.length ≤ 65535) (hn0 : n0 ≤ 1000000) (he : d0.add (recP L) = (true, d1)) (hn1 : n1 = if (d0.app (recP L)).1 then n0 + 1 else n0) :
    wantsG KT (GJ w0 p j d0 d1 n0 n1 iA iL iM sL sM L (listed.setIfInBounds iA true)) Try.prog ops o a w (Is (.int .i64 0)) := by
  obtain ⟨v, N, -⟩ := h.jn
  rw [if_neg (by rw [hnA]; decide), if_neg (by rw [hnA]; decide)] at N
  have hS := h.lt hM hnA
  refine wantsG_callW hw ho Try.func13 (by kernel_rfl) (by kernel_rfl) ?_
  simp only [List.map_toArray, List.map_cons, List.map_nil, hx]
  refine (jadd_any N hS hB hl hn0 true he 0 rfl n1 hn1).mono ?_
  rintro e w' ⟨rfl, v', N', -⟩
  refine ⟨_, rfl, ⟨trivial, ?_⟩, rfl⟩
  rw [hdst]
  refine ⟨⟨v', by rw [if_pos (getD_set_selfM iA hsz), if_pos (getD_set_selfM iA hsz)]; exact N', fun e1 e2 => ?_⟩, by rw [put_size]; exact h.sz, fun e1 e2 => ?_⟩
  · rw [getD_set_neM hi.2, hM] at e2; cases e2
  · rw [getD_set_selfM iA hsz] at e2; cases e2
theorem GJ.lit {ops : Array Oper} {o : Oper} (h : GJ w0 p j d0 d1 n0 n1 iA iL iM sL sM L listed a w) (hi : iL ≠ iA ∧ iL ≠ iM) (hs : sL ≠ sM) (hm : L.length ≤ 1000) (hM : listed.getD iM false = false)
    (hw : Region.wanted o (yielded ops a.tmps) = true) (hdst : o.dst = some sL) (ho : (execOp a.eval o).run Try.prog w = .ok (.value (.slice (some ⟨w.heap.size, 0, none⟩) L.length L.length)) (w.alloc (.cells (L.map (Value.int .u8)).toArray 5))) :
    wantsG KT (GJ w0 p j d0 d1 n0 n1 iA iL iM sL sM L (listed.setIfInBounds iL true)) Try.prog ops o a w AnyT := by
  unfold wantsG
  rw [if_pos hw, ho]
  refine ⟨⟨trivial, ?_⟩, trivial⟩
  rw [hdst]
  have K := (Kp.refl [] w).alloc (.cells (L.map (Value.int .u8)).toArray 5)
  obtain ⟨x, h1, h2⟩ := h.jn
  refine ⟨⟨x, ?_, fun e1 e2 => ?_⟩, by rw [put_size]; exact h.sz, fun e1 e2 => ?_⟩
  · rw [getD_set_neM hi.1]; exact h1.on K
  · refine ⟨w.heap.size, L.length, by rw [eval_put_same h.sz.1], lit_sl w L L.length (0, 0) rfl hm, fun hmm => ?_, h1.nw.kp.size⟩
    rcases List.mem_cons.1 hmm with e | hmm
    · have := h1.jr.lt; omega
    · have := h1.nw.dk.lt _ hmm; omega
  · rw [getD_set_neM hi.2] at e1
    rw [hM] at e1; cases e1
theorem GJ.mark {ops : Array Oper} {o : Oper} (h : GJ w0 p j d0 d1 n0 n1 iA iL iM sL sM L listed a w) (hi : iM ≠ iA ∧ iM ≠ iL) (hs : sM ≠ sL) (hL : listed.getD iL false = true) (hM : listed.getD iM false = false) (hsz : iM < listed.size)
    (hw : Region.wanted o (yielded ops a.tmps) = true) (hdst : o.dst = some sM) (ho : o.op = .convert 22 22 (.tmp sL)) :
    wantsG KT (GJ w0 p j d0 d1 n0 n1 iA iL iM sL sM L (listed.setIfInBounds iM true)) Try.prog ops o a w AnyT := by
  obtain ⟨x, h1, h2⟩ := h.jn
  obtain ⟨g, c, q1, q2, q3, q4⟩ := h2 hL hM
  obtain ⟨w', hr, k1, k2⟩ := run_convert_lig w ⟨g, 0, none⟩ L.length c
  have e : (execOp a.eval o).run Try.prog w = .ok (.value (.slice (some ⟨g, 0, none⟩) L.length c)) w' := by
    unfold execOp
    simp only [ho, q1, Sem.run_bind, hr, Result.andThen_ok, Sem.run_pure]
  unfold wantsG
  rw [if_pos hw, e]
  refine ⟨⟨trivial, ?_⟩, trivial⟩
  rw [hdst]
  have hg : ∀ i ∈ [(⟨g, 0, none⟩ : Addr).block], i = g := fun i hi => by simpa using hi
  refine ⟨⟨x, ?_, fun e1 e2 => ?_⟩, by rw [put_size]; exact h.sz, fun e1 e2 => ?_⟩
  · rw [getD_set_neM hi.1]
    exact ⟨⟨h1.nw.dk.kept k2 (fun i hi hm => q3 (by rw [← hg i hm]; simp [hi])), h1.nw.new, h1.nw.kp.then k2 (fun i hi => .inr (by rw [hg i hi]; exact q4)), h1.nw.arm⟩, h1.jr.kept k2 (fun hm => q3 (by rw [← hg j hm]; simp)), h1.new⟩
  · rw [getD_set_selfM iM hsz] at e2; cases e2
  · rw [eval_put_same h.sz.2]
    exact q2.kc k1
end
/-- what holds while the second part goes on. -/
structure GT (wb : World) (la : List (Value × List Int)) (D M : List Int) (listed : Array Bool) (a : Act) (w : World) : Prop where
  kp : Kp [] wb w
  sz : 89 ≤ a.tmps.size
  r75 : listed.getD 9 false = true → listed.getD 11 false = false → RowV w wb.heap.size (a.eval (.tmp 75)) []
  r77 : listed.getD 11 false = true → listed.getD 15 false = false → RowV w wb.heap.size (a.eval (.tmp 77)) (la.map (·.1))
  lt : listed.getD 12 false = true → listed.getD 15 false = false → ∃ g c, a.eval (.tmp 78) = .slice (some ⟨g, 0, none⟩) M.length c ∧ Sl w (.slice (some ⟨g, 0, none⟩) M.length c) M ∧ wb.heap.size ≤ g ∧ g < w.heap.size ∧ (listed.getD 9 false = true → listed.getD 11 false = false → (a.eval (.tmp 75)).ownBlock ≠ some g) ∧ (listed.getD 11 false = true → (a.eval (.tmp 77)).ownBlock ≠ some g)
  m79 : listed.getD 13 false = true → listed.getD 15 false = false → a.eval (.tmp 79) = a.eval (.tmp 78)
  o80 : listed.getD 14 false = true → listed.getD 15 false = false → ∃ g1, a.eval (.tmp 80) = .slice (some ⟨g1, 0, none⟩) 1 1 ∧ w.cell? ⟨g1, 0, none⟩ = some (a.eval (.tmp 78)) ∧ (listed.getD 9 false = true → listed.getD 11 false = false → (a.eval (.tmp 75)).ownBlock ≠ some g1)
  l81 : listed.getD 15 false = true → listed.getD 16 false = false → ∃ l', Lists w (a.eval (.tmp 81)) l' ∧ l'.map (·.2) = la.map (·.2) ++ [M]
  b73 : listed.getD 7 false = true → listed.getD 8 false = false → Sl w (a.eval (.tmp 73)) D ∧ ∀ i, (a.eval (.tmp 73)).ownBlock = some i → i < w.heap.size ∧ (listed.getD 9 false = true → listed.getD 11 false = false → (a.eval (.tmp 75)).ownBlock ≠ some i) ∧ (listed.getD 11 false = true → listed.getD 15 false = false → (a.eval (.tmp 77)).ownBlock ≠ some i)
  b82 : listed.getD 16 false = true → listed.getD 17 false = false → Sl w (a.eval (.tmp 82)) D
section
variable {wb : World} {la : List (Value × List Int)} {D M : List Int} {listed : Array Bool} {a : Act} {w w' : World}
theorem GT.start (h0 : ∀ t, 6 ≤ t → listed.getD t false = false) (hs : 89 ≤ a.tmps.size) : GT w la D M listed a w := by
  refine ⟨Kp.refl _ _, hs, ?_, ?_, ?_, ?_, ?_, ?_, ?_, ?_⟩
  all_goals intro e; rw [h0 _ (by decide)] at e; cases e
theorem GT.free (h : GT wb la D M listed a w) (k : Nat) (hk : k ≠ 7 ∧ k ≠ 9 ∧ k ≠ 11 ∧ k ≠ 12 ∧ k ≠ 13 ∧ k ≠ 14 ∧ k ≠ 15 ∧ k ≠ 16) (d : Tmp) (hd : d ≠ 73 ∧ d ≠ 75 ∧ d ≠ 77 ∧ d ≠ 78 ∧ d ≠ 79 ∧ d ≠ 80 ∧ d ≠ 81 ∧ d ≠ 82) (v : Value) (K : Kp [] w w') : GT wb la D M (listed.setIfInBounds k true) (a.put (some d) v) w' := by
  obtain ⟨k7, k9, k11, k12, k13, k14, k15, k16⟩ := hk
  obtain ⟨d73, d75, d77, d78, d79, d80, d81, d82⟩ := hd
  have hz := K.size
  refine ⟨h.kp.trans K, by rw [put_size]; exact h.sz, fun e1 e2 => ?_, fun e1 e2 => ?_, fun e1 e2 => ?_, fun e1 e2 => ?_, fun e1 e2 => ?_, fun e1 e2 => ?_, fun e1 e2 => ?_, fun e1 e2 => ?_⟩
  · rw [getD_set_neM k9] at e1; rw [getD_set_neM k11] at e2; rw [eval_put_other d75]; exact (h.r75 e1 e2).kept K (by simp)
  · rw [getD_set_neM k11] at e1; rw [getD_set_neM k15] at e2; rw [eval_put_other d77]; exact (h.r77 e1 e2).kept K (by simp)
  · rw [getD_set_neM k12] at e1; rw [getD_set_neM k15] at e2
    obtain ⟨g, c, q1, q2, q3, q4, q5, q6⟩ := h.lt e1 e2
    rw [getD_set_neM k9, getD_set_neM k11, eval_put_other d75, eval_put_other d77, eval_put_other d78]
    exact ⟨g, c, q1, q2.kept K (by simp), q3, by omega, q5, q6⟩
  · rw [getD_set_neM k13] at e1; rw [getD_set_neM k15] at e2; rw [eval_put_other d79, eval_put_other d78]; exact h.m79 e1 e2
  · rw [getD_set_neM k14] at e1; rw [getD_set_neM k15] at e2
    obtain ⟨g1, q1, q2, q3⟩ := h.o80 e1 e2
    rw [getD_set_neM k9, getD_set_neM k11, eval_put_other d75, eval_put_other d78, eval_put_other d80]
    exact ⟨g1, q1, K.cell q2 (by simp), q3⟩
  · rw [getD_set_neM k15] at e1; rw [getD_set_neM k16] at e2; rw [eval_put_other d81]
    obtain ⟨l', q1, q2⟩ := h.l81 e1 e2
    exact ⟨l', q1.kept K, q2⟩
  · rw [getD_set_neM k7] at e1
    obtain ⟨q1, q2⟩ := h.b73 e1 (getD_set_back e2)
    rw [getD_set_neM k9, getD_set_neM k11, getD_set_neM k15, eval_put_other d73, eval_put_other d75, eval_put_other d77]
    exact ⟨q1.kept K (by simp), fun i hi => ⟨by have := (q2 i hi).1; omega, (q2 i hi).2⟩⟩
  · rw [getD_set_neM k16] at e1; rw [eval_put_other d82]; exact (h.b82 e1 (getD_set_back e2)).kept K (by simp)
/-- a new block behind all. -/
theorem RowV.ltb {w : World} {base k : Nat} {v : Value} {xs : List Value} (h : RowV w base v xs) (hk : v.ownBlock = some k) : k < w.heap.size := RowV.lt h hk
theorem GT.bytes {p : Nat} {v : Value} {d : Dk} {base : Nat} {ops : Array Oper} {o : Oper} (h : GT wb la D M listed a w) (hdk : DskP w base p v d) (hD : d.bs = D) (hw : Region.wanted o (yielded ops a.tmps) = true) (x : Operand) {ats : Array TypeId} (ho : o.op = .call { callee := .value (.func 25), args := #[x], argTypes := ats }) (hdst : o.dst = some 73) (hx : a.eval x = .pointer (some ⟨p, 0, none⟩)) :
    wantsG KT (GT wb la D M (listed.setIfInBounds 7 true)) Try.prog ops o a w AnyT := by
  refine wantsG_callW hw ho Try.func25 (by kernel_rfl) (by kernel_rfl) ?_
  simp only [List.map_toArray, List.map_cons, List.map_nil, hx]
  refine (dbytes_any p v d base w hdk).mono ?_
  rintro e w' ⟨ao, m, c, rfl, R, K⟩
  refine ⟨_, rfl, ⟨trivial, ?_⟩, trivial⟩
  rw [hdst]
  have hz := K.size
  have hs := h.sz
  refine ⟨h.kp.trans K, by rw [put_size]; exact h.sz, fun e1 e2 => ?_, fun e1 e2 => ?_, fun e1 e2 => ?_, fun e1 e2 => ?_, fun e1 e2 => ?_, fun e1 e2 => ?_, fun e1 e2 => ?_, fun e1 e2 => ?_⟩
  · rw [getD_set_neM (by decide)] at e1 e2; rw [eval_put_other (by decide)]; exact (h.r75 e1 e2).kept K (by simp)
  · rw [getD_set_neM (by decide)] at e1 e2; rw [eval_put_other (by decide)]; exact (h.r77 e1 e2).kept K (by simp)
  · rw [getD_set_neM (by decide)] at e1 e2
    obtain ⟨g, c, q1, q2, q3, q4, q5, q6⟩ := h.lt e1 e2
    rw [getD_set_neM (by decide), getD_set_neM (by decide), eval_put_other (by decide), eval_put_other (by decide), eval_put_other (by decide)]
    exact ⟨g, c, q1, q2.kept K (by simp), q3, by omega, q5, q6⟩
  · rw [getD_set_neM (by decide)] at e1 e2; rw [eval_put_other (by decide), eval_put_other (by decide)]; exact h.m79 e1 e2
  · rw [getD_set_neM (by decide)] at e1 e2
    obtain ⟨g1, q1, q2, q3⟩ := h.o80 e1 e2
    rw [getD_set_neM (by decide), getD_set_neM (by decide), eval_put_other (by decide), eval_put_other (by decide), eval_put_other (by decide)]
    exact ⟨g1, q1, K.cell q2 (by simp), q3⟩
  · rw [getD_set_neM (by decide)] at e1 e2; rw [eval_put_other (by decide)]
    obtain ⟨l', q1, q2⟩ := h.l81 e1 e2
    exact ⟨l', q1.kept K, q2⟩
  · rw [eval_put_same (show (73 : Nat) < a.tmps.size by omega), eval_put_other (by decide), eval_put_other (by decide), getD_set_neM (by decide), getD_set_neM (by decide), getD_set_neM (by decide)]
    refine ⟨by rw [← hD]; exact R.sl, fun i hi => ⟨R.lt hi, fun f1 f2 e => ?_, fun f1 f2 e => ?_⟩⟩
    · have := (h.r75 f1 f2).ltb e; have := R.own i hi; omega
    · have := (h.r77 f1 f2).ltb e; have := R.own i hi; omega
  · rw [getD_set_neM (by decide)] at e1; rw [eval_put_other (by decide)]; exact (h.b82 e1 (getD_set_back e2)).kept K (by simp)
theorem GT.none_ {ops : Array Oper} {o : Oper} (h : GT wb la D M listed a w) (hw : Region.wanted o (yielded ops a.tmps) = true) (ho : o.op = .buildSlice 24 0 #[]) (hdst : o.dst = some 75) (h11 : listed.getD 11 false = false) :
    wantsG KT (GT wb la D M (listed.setIfInBounds 9 true)) Try.prog ops o a w AnyT := by
  have e : (execOp a.eval o).run Try.prog w = .ok (.value (.slice (some ⟨w.heap.size, 0, none⟩) 0 0)) (w.alloc (.cells #[] 22)) := by
    unfold execOp
    simp only [ho]
    simp [go_sem]
  unfold wantsG
  rw [if_pos hw, e]
  refine ⟨⟨trivial, ?_⟩, trivial⟩
  rw [hdst]
  have K : Kp [] w (w.alloc (.cells #[] 22)) := (Kp.refl [] w).alloc _
  have hz := K.size
  have hs := h.sz
  have hb := h.kp.size
  refine ⟨h.kp.trans K, by rw [put_size]; exact h.sz, fun e1 e2 => ?_, fun e1 e2 => ?_, fun e1 e2 => ?_, fun e1 e2 => ?_, fun e1 e2 => ?_, fun e1 e2 => ?_, fun e1 e2 => ?_, fun e1 e2 => ?_⟩
  · rw [eval_put_same (show (75 : Nat) < a.tmps.size by omega)]; exact owns_rebase (rowv_none w) (fun i hi => by have := (rowv_none w).own i hi; omega)
  · rw [getD_set_neM (by decide)] at e1 e2; rw [eval_put_other (by decide)]; exact (h.r77 e1 e2).kept K (by simp)
  · rw [getD_set_neM (by decide)] at e1 e2
    obtain ⟨g, c, q1, q2, q3, q4, q5, q6⟩ := h.lt e1 e2
    rw [eval_put_same (show (75 : Nat) < a.tmps.size by omega), eval_put_other (by decide), eval_put_other (by decide), getD_set_neM (i := 9) (j := 11) (by decide)]
    exact ⟨g, c, q1, q2.kept K (by simp), q3, by omega, fun _ _ e => by simp [Value.ownBlock] at e; omega, q6⟩
  · rw [getD_set_neM (by decide)] at e1 e2; rw [eval_put_other (by decide), eval_put_other (by decide)]; exact h.m79 e1 e2
  · rw [getD_set_neM (by decide)] at e1 e2
    obtain ⟨g1, q1, q2, q3⟩ := h.o80 e1 e2
    rw [eval_put_same (show (75 : Nat) < a.tmps.size by omega), eval_put_other (by decide), eval_put_other (by decide)]
    have hlt := World.block_lt_of_cell? _ _ q2
    exact ⟨g1, q1, K.cell q2 (by simp), fun _ _ e => by simp [Value.ownBlock] at e; simp at hlt; omega⟩
  · rw [getD_set_neM (by decide)] at e1 e2; rw [eval_put_other (by decide)]
    obtain ⟨l', q1, q2⟩ := h.l81 e1 e2
    exact ⟨l', q1.kept K, q2⟩
  · rw [getD_set_neM (by decide)] at e1 e2
    obtain ⟨q1, q2⟩ := h.b73 e1 e2
    rw [eval_put_other (by decide), eval_put_same (show (75 : Nat) < a.tmps.size by omega), eval_put_other (by decide), getD_set_neM (i := 9) (j := 11) (by decide), getD_set_neM (i := 9) (j := 15) (by decide)]
    refine ⟨q1.kept K (by simp), fun i hi => ⟨by have := (q2 i hi).1; omega, fun _ _ e => ?_, (q2 i hi).2.2⟩⟩
    have := (q2 i hi).1
    simp [Value.ownBlock] at e; omega
  · rw [getD_set_neM (by decide)] at e1; rw [eval_put_other (by decide)]; exact (h.b82 e1 (getD_set_back e2)).kept K (by simp)
theorem GT.lit {ops : Array Oper} {o : Oper} (h : GT wb la D M listed a w) (hw : Region.wanted o (yielded ops a.tmps) = true) (hm : M.length ≤ 1000) (hdst : o.dst = some 78) (h13 : listed.getD 13 false = false) (h14 : listed.getD 14 false = false)
    (ho : (execOp a.eval o).run Try.prog w = .ok (.value (.slice (some ⟨w.heap.size, 0, none⟩) M.length M.length)) (w.alloc (.cells (M.map (Value.int .u8)).toArray 5))) :
    wantsG KT (GT wb la D M (listed.setIfInBounds 12 true)) Try.prog ops o a w AnyT := by
  unfold wantsG
  rw [if_pos hw, ho]
  refine ⟨⟨trivial, ?_⟩, trivial⟩
  rw [hdst]
  have K : Kp [] w (w.alloc (.cells (M.map (Value.int .u8)).toArray 5)) := (Kp.refl [] w).alloc _
  have hz := K.size
  have hs := h.sz
  have hb := h.kp.size
  refine ⟨h.kp.trans K, by rw [put_size]; exact h.sz, fun e1 e2 => ?_, fun e1 e2 => ?_, fun e1 e2 => ?_, fun e1 e2 => ?_, fun e1 e2 => ?_, fun e1 e2 => ?_, fun e1 e2 => ?_, fun e1 e2 => ?_⟩
  · rw [getD_set_neM (by decide)] at e1 e2; rw [eval_put_other (by decide)]; exact (h.r75 e1 e2).kept K (by simp)
  · rw [getD_set_neM (by decide)] at e1 e2; rw [eval_put_other (by decide)]; exact (h.r77 e1 e2).kept K (by simp)
  · rw [getD_set_neM (by decide)] at e2
    rw [eval_put_same (show (78 : Nat) < a.tmps.size by omega), eval_put_other (by decide), eval_put_other (by decide), getD_set_neM (i := 12) (j := 9) (by decide), getD_set_neM (i := 12) (j := 11) (by decide)]
    refine ⟨w.heap.size, M.length, rfl, lit_sl w M M.length (0, 0) rfl hm, hb, by simp, fun f1 f2 e => ?_, fun f1 e => ?_⟩
    · have := (h.r75 f1 f2).ltb e; omega
    · have := (h.r77 f1 e2).ltb e; omega
  · rw [getD_set_neM (by decide), h13] at e1; cases e1
  · rw [getD_set_neM (by decide), h14] at e1; cases e1
  · rw [getD_set_neM (by decide)] at e1 e2; rw [eval_put_other (by decide)]
    obtain ⟨l', q1, q2⟩ := h.l81 e1 e2
    exact ⟨l', q1.kept K, q2⟩
  · rw [getD_set_neM (by decide)] at e1 e2
    obtain ⟨q1, q2⟩ := h.b73 e1 e2
    rw [eval_put_other (by decide), eval_put_other (by decide), eval_put_other (by decide), getD_set_neM (i := 12) (j := 9) (by decide), getD_set_neM (i := 12) (j := 11) (by decide), getD_set_neM (i := 12) (j := 15) (by decide)]
    exact ⟨q1.kept K (by simp), fun i hi => ⟨by have := (q2 i hi).1; omega, (q2 i hi).2⟩⟩
  · rw [getD_set_neM (by decide)] at e1; rw [eval_put_other (by decide)]; exact (h.b82 e1 (getD_set_back e2)).kept K (by simp)
theorem GT.mark {ops : Array Oper} {o : Oper} (h : GT wb la D M listed a w) (hw : Region.wanted o (yielded ops a.tmps) = true) (h12 : listed.getD 12 false = true) (h14 : listed.getD 14 false = false) (h15 : listed.getD 15 false = false) (h16 : listed.getD 16 false = false) (hdst : o.dst = some 79) (ho : o.op = .convert 22 22 (.tmp 78)) :
    wantsG KT (GT wb la D M (listed.setIfInBounds 13 true)) Try.prog ops o a w AnyT := by
  obtain ⟨g, c, q1, q2, q3, q4, q5, q6⟩ := h.lt h12 h15
  obtain ⟨w', hr, k1, k2⟩ := run_convert_lig w ⟨g, 0, none⟩ M.length c
  have e : (execOp a.eval o).run Try.prog w = .ok (.value (.slice (some ⟨g, 0, none⟩) M.length c)) w' := by
    unfold execOp
    simp only [ho, q1, Sem.run_bind, hr, Result.andThen_ok, Sem.run_pure]
  unfold wantsG
  rw [if_pos hw, e]
  refine ⟨⟨trivial, ?_⟩, trivial⟩
  rw [hdst]
  have hg : ∀ i ∈ [(⟨g, 0, none⟩ : Addr).block], i = g := fun i hi => by simpa using hi
  have hz := k1.size
  have hs := h.sz
  refine ⟨h.kp.then k2 (fun i hi => .inr (by rw [hg i hi]; exact q3)), by rw [put_size]; exact h.sz, fun e1 e2 => ?_, fun e1 e2 => ?_, fun e1 e2 => ?_, fun e1 e2 => ?_, fun e1 e2 => ?_, fun e1 e2 => ?_, fun e1 e2 => ?_, fun e1 e2 => ?_⟩
  · rw [getD_set_neM (by decide)] at e1 e2; rw [eval_put_other (by decide)]; exact (h.r75 e1 e2).kept k2 (fun i hi hm => q5 e1 e2 (by rw [← hg i hm]; exact hi))
  · rw [getD_set_neM (by decide)] at e1 e2; rw [eval_put_other (by decide)]; exact (h.r77 e1 e2).kept k2 (fun i hi hm => q6 e1 (by rw [← hg i hm]; exact hi))
  · rw [eval_put_other (by decide), eval_put_other (by decide), eval_put_other (by decide), getD_set_neM (i := 13) (j := 9) (by decide), getD_set_neM (i := 13) (j := 11) (by decide)]
    exact ⟨g, c, q1, q2.kc k1, q3, by omega, q5, q6⟩
  · rw [eval_put_same (show (79 : Nat) < a.tmps.size by omega), eval_put_other (by decide), q1]
  · rw [getD_set_neM (by decide), h14] at e1; cases e1
  · rw [getD_set_neM (by decide), h15] at e1; cases e1
  · rw [getD_set_neM (by decide)] at e1 e2
    obtain ⟨r1, r2⟩ := h.b73 e1 e2
    rw [eval_put_other (by decide), eval_put_other (by decide), eval_put_other (by decide), getD_set_neM (i := 13) (j := 9) (by decide), getD_set_neM (i := 13) (j := 11) (by decide), getD_set_neM (i := 13) (j := 15) (by decide)]
    exact ⟨r1.kc k1, fun i hi => ⟨by have := (r2 i hi).1; omega, (r2 i hi).2⟩⟩
  · rw [getD_set_neM (by decide), h16] at e1; cases e1
end
section
variable {o : Oper} {a : Act} {w : World}
/-- append inside a region that draws: onto a row of slices of one's own. -/
theorem exec_append_at (s x : Operand) (ho : o.op = .call { callee := .builtin .append, args := #[s, x], argTypes := #[24, 24] }) (base : Nat) (v : Value) (xs : List Value) (hs : a.eval s = v) (hrow : RowV w base v xs)
    (ad : Addr) (c : Nat) (ys : List Value) (hx : a.eval x = .slice (some ad) ys.length c) (hy : ∀ j u, ys[j]? = some u → w.cell? (ad.add j) = some u) (h1 : ∀ u ∈ ys, u.oneCell' = true) (hb : xs.length + ys.length ≤ 1000000000) (hbase : base ≤ w.heap.size) :
    ∃ v' w', (execOp a.eval o).run Try.prog w = .ok (.value v') w' ∧ RowV w' base v' (xs ++ ys) ∧ RStep w v w' v' := by
  obtain ⟨i0, hi0, hz0, hz1, hz2⟩ := info_parts Try.infoSl
  obtain ⟨v', w', hr, h2, h3, h4, h5⟩ := run_append_own_at (P := Try.prog) w base 24 o.type 22 i0 (.slice none 0 0) 1 24 Try.underlying24 hi0 hz0 hz1 hz2 rfl (by decide) v xs.length xs hrow ad ys.length c ys (by simp) hy h1 (by unfold maxLen; omega) (by omega) hbase
  refine ⟨v', w', ?_, ?_, (Kp.refl _ w).grown h3 (fun k hk => .inl (by simp [hk])), fun k hk => ?_⟩
  · unfold execOp
    simp only [ho, resolve, invoke, builtin, Sem.run_bind, Sem.run_pure, Result.andThen_ok, List.map_toArray, List.map_cons, List.map_nil, hs, hx, hr]
  · unfold RowV; rw [List.length_append]; exact h2
  · rcases h5 with e | e
    · exact .inl (e ▸ hk)
    · rw [e] at hk; cases hk; exact .inr (Nat.le_refl _)
theorem exec_append_list (s x : Operand) (ho : o.op = .call { callee := .builtin .append, args := #[s, x], argTypes := #[24, 24] }) (base : Nat) (v : Value) (xs : List Value) (hs : a.eval s = v) (hrow : RowV w base v xs)
    (ol : Option Addr) (m oc : Nat) (la : List (Value × List Int)) (hx : a.eval x = .slice ol m oc) (hL : Lists w (.slice ol m oc) la) (hn : ol = none → oc = 0) (hb : xs.length + la.length ≤ 1000000) (hbase : base ≤ w.heap.size) :
    ∃ v' w', (execOp a.eval o).run Try.prog w = .ok (.value v') w' ∧ RowV w' base v' (xs ++ la.map (·.1)) ∧ RStep w v w' v' := by
  obtain ⟨ol', oc', e, hl1, hcell⟩ := hL
  injection e with e1 e2 e3
  subst e1 e3
  subst e2
  cases ol with
  | none =>
    have h0 : la = [] := by
      cases la with
      | nil => rfl
      | cons y t =>
        obtain ⟨b, off, e, -⟩ := hcell 0 (by simp)
        cases e
    subst h0
    have hoc := hn rfl
    subst hoc
    obtain ⟨i0, hi0, hz0, hz1, hz2⟩ := info_parts Try.infoSl
    have hr := run_append_owned_none (P := Try.prog) (w := w) base 24 o.type 22 i0 1 Try.underlying24 hi0 v xs.length xs hrow
    refine ⟨v, w, ?_, by simpa using hrow, RStep.refl _ _⟩
    have hx' : a.eval x = .slice none 0 0 := by simpa using hx
    unfold execOp
    simp only [ho, resolve, invoke, builtin, Sem.run_bind, Sem.run_pure, Result.andThen_ok, List.map_toArray, List.map_cons, List.map_nil, hs, hx', hr]
  | some ad =>
    refine exec_append_at s x ho base v xs hs hrow ad oc (la.map (·.1)) (by rw [hx]; simp) ?_ ?_ (by simp; omega) hbase
    · intro j u hu
      have hj : j < la.length := by have := (List.getElem?_eq_some_iff.1 hu).1; simpa using this
      obtain ⟨b, off, e, hc, -⟩ := hcell j hj
      injection e with e
      subst e
      rw [Addr.add_lit, hc]
      simpa [List.getElem?_eq_getElem hj] using hu
    · intro u hu
      obtain ⟨y, hy, rfl⟩ := List.mem_map.1 hu
      obtain ⟨i, hi, rfl⟩ := List.getElem_of_mem hy
      obtain ⟨b, off, e, hc, ⟨a1, c1, e1, -⟩, -⟩ := hcell i hi
      rw [e1]; rfl
end
section
variable {wb : World} {la : List (Value × List Int)} {D M : List Int} {listed : Array Bool} {a : Act} {w w' : World}
theorem GT.cop {ops : Array Oper} {o : Oper} (h : GT wb la D M listed a w) (hw : Region.wanted o (yielded ops a.tmps) = true) (h9 : listed.getD 9 false = true) (h11 : listed.getD 11 false = false) (h15 : listed.getD 15 false = false) (h16 : listed.getD 16 false = false) (hsz : 11 < listed.size) (hdst : o.dst = some 77) (x : Operand) (ho : o.op = .call { callee := .builtin .append, args := #[.tmp 75, x], argTypes := #[24, 24] })
    (ol : Option Addr) (m oc : Nat) (hx : a.eval x = .slice ol m oc) (hL : Lists w (.slice ol m oc) la) (hn : ol = none → oc = 0) (hla : la.length ≤ 1000) :
    wantsG KT (GT wb la D M (listed.setIfInBounds 11 true)) Try.prog ops o a w AnyT := by
  have hr75 := h.r75 h9 h11
  obtain ⟨v', w', hr, R, S⟩ := exec_append_list (.tmp 75) x ho wb.heap.size _ [] rfl hr75 ol m oc la hx hL hn (by simp; omega) h.kp.size
  rw [List.nil_append] at R
  unfold wantsG
  rw [if_pos hw, hr]
  refine ⟨⟨trivial, ?_⟩, trivial⟩
  rw [hdst]
  have hz := S.1.size
  have hs := h.sz
  have hown : ∀ i ∈ (a.eval (.tmp 75)).ownBlock.toList, (a.eval (.tmp 75)).ownBlock = some i := fun i hi => by simpa [Option.mem_toList] using hi
  refine ⟨h.kp.then S.1 (fun i hi => .inr (hr75.own i (hown i hi))), by rw [put_size]; exact h.sz, fun e1 e2 => ?_, fun e1 e2 => ?_, fun e1 e2 => ?_, fun e1 e2 => ?_, fun e1 e2 => ?_, fun e1 e2 => ?_, fun e1 e2 => ?_, fun e1 e2 => ?_⟩
  · rw [getD_set_selfM 11 hsz] at e2; cases e2
  · rw [eval_put_same (show (77 : Nat) < a.tmps.size by omega)]; exact R
  · rw [getD_set_neM (by decide)] at e1 e2
    obtain ⟨g, c, q1, q2, q3, q4, q5, q6⟩ := h.lt e1 e2
    rw [eval_put_same (show (77 : Nat) < a.tmps.size by omega), eval_put_other (by decide), eval_put_other (by decide)]
    refine ⟨g, c, q1, q2.kept S.1 (fun i hi hm => ?_), q3, by omega, fun f1 f2 => q5 h9 h11, fun f1 e => ?_⟩
    · have : i = g := by simpa [Value.ownBlock] using hi.symm
      rw [this] at hm; exact q5 h9 h11 (hown g hm)
    · rcases S.2 g e with f | f
      · exact q5 h9 h11 f
      · omega
  · rw [getD_set_neM (by decide)] at e1 e2; rw [eval_put_other (by decide), eval_put_other (by decide)]; exact h.m79 e1 e2
  · rw [getD_set_neM (by decide)] at e1 e2
    obtain ⟨g1, q1, q2, q3⟩ := h.o80 e1 e2
    rw [eval_put_other (by decide), eval_put_other (by decide), eval_put_other (by decide)]
    exact ⟨g1, q1, S.1.cell q2 (fun hm => q3 h9 h11 (hown g1 hm)), fun _ _ => q3 h9 h11⟩
  · rw [getD_set_neM (by decide), h15] at e1; cases e1
  · rw [getD_set_neM (by decide)] at e1 e2
    obtain ⟨q1, q2⟩ := h.b73 e1 e2
    rw [eval_put_other (by decide), eval_put_other (by decide), eval_put_same (show (77 : Nat) < a.tmps.size by omega)]
    refine ⟨q1.kept S.1 (fun i hi hm => (q2 i hi).2.1 h9 h11 (hown i hm)), fun i hi => ⟨by have := (q2 i hi).1; omega, fun _ _ => (q2 i hi).2.1 h9 h11, fun _ _ e => ?_⟩⟩
    rcases S.2 i e with f | f
    · exact (q2 i hi).2.1 h9 h11 f
    · have := (q2 i hi).1; omega
  · rw [getD_set_neM (by decide), h16] at e1; cases e1
theorem GT.one {ops : Array Oper} {o : Oper} (h : GT wb la D M listed a w) (hw : Region.wanted o (yielded ops a.tmps) = true) (h13 : listed.getD 13 false = true) (h12 : listed.getD 12 false = true) (h15 : listed.getD 15 false = false) (hdst : o.dst = some 80) (ho : o.op = .buildSlice 24 1 #[(0, .tmp 79)]) :
    wantsG KT (GT wb la D M (listed.setIfInBounds 14 true)) Try.prog ops o a w AnyT := by
  obtain ⟨g, c, q1, q2, q3, q4, q5, q6⟩ := h.lt h12 h15
  have hy : a.eval (.tmp 79) = .slice (some ⟨g, 0, none⟩) M.length c := (h.m79 h13 h15).trans q1
  have e : (execOp a.eval o).run Try.prog w = .ok (.value (.slice (some ⟨w.heap.size, 0, none⟩) 1 1)) (w.alloc (.cells #[.slice (some ⟨g, 0, none⟩) M.length c] 22)) := by
    obtain ⟨ρ, hρ, hc, hf, hg⟩ := eval_is a
    rw [hρ] at hy ⊢
    unfold execOp
    simp only [ho]
    simp [go_sem, hy]
  unfold wantsG
  rw [if_pos hw, e]
  refine ⟨⟨trivial, ?_⟩, trivial⟩
  rw [hdst]
  have K : Kp [] w (w.alloc (.cells #[.slice (some ⟨g, 0, none⟩) M.length c] 22)) := (Kp.refl [] w).alloc _
  have hz := K.size
  have hs := h.sz
  refine ⟨h.kp.trans K, by rw [put_size]; exact h.sz, fun e1 e2 => ?_, fun e1 e2 => ?_, fun e1 e2 => ?_, fun e1 e2 => ?_, fun e1 e2 => ?_, fun e1 e2 => ?_, fun e1 e2 => ?_, fun e1 e2 => ?_⟩
  · rw [getD_set_neM (by decide)] at e1 e2; rw [eval_put_other (by decide)]; exact (h.r75 e1 e2).kept K (by simp)
  · rw [getD_set_neM (by decide)] at e1 e2; rw [eval_put_other (by decide)]; exact (h.r77 e1 e2).kept K (by simp)
  · rw [eval_put_other (by decide), eval_put_other (by decide), eval_put_other (by decide), getD_set_neM (i := 14) (j := 9) (by decide), getD_set_neM (i := 14) (j := 11) (by decide)]
    exact ⟨g, c, q1, q2.kept K (by simp), q3, by omega, q5, q6⟩
  · rw [getD_set_neM (by decide)] at e1 e2; rw [eval_put_other (by decide), eval_put_other (by decide)]; exact h.m79 e1 e2
  · rw [eval_put_same (show (80 : Nat) < a.tmps.size by omega), eval_put_other (by decide), eval_put_other (by decide), getD_set_neM (i := 14) (j := 9) (by decide), getD_set_neM (i := 14) (j := 11) (by decide)]
    refine ⟨w.heap.size, rfl, ?_, fun f1 f2 e => ?_⟩
    · rw [q1]
      have := cell_one_new w (.slice (some ⟨g, 0, none⟩) M.length c) 22 0 _ rfl
      rwa [Addr.add_zero'] at this
    · have := (h.r75 f1 f2).ltb e; omega
  · rw [getD_set_neM (by decide), h15] at e1; cases e1
  · rw [getD_set_neM (by decide)] at e1 e2
    obtain ⟨r1, r2⟩ := h.b73 e1 e2
    rw [eval_put_other (by decide), eval_put_other (by decide), eval_put_other (by decide), getD_set_neM (i := 14) (j := 9) (by decide), getD_set_neM (i := 14) (j := 11) (by decide), getD_set_neM (i := 14) (j := 15) (by decide)]
    exact ⟨r1.kept K (by simp), fun i hi => ⟨by have := (r2 i hi).1; omega, (r2 i hi).2⟩⟩
  · rw [getD_set_neM (by decide)] at e1; rw [eval_put_other (by decide)]; exact (h.b82 e1 (getD_set_back e2)).kept K (by simp)
theorem GT.put {ops : Array Oper} {o : Oper} (h : GT wb la D M listed a w) (hw : Region.wanted o (yielded ops a.tmps) = true) (h9 : listed.getD 9 false = true) (h11 : listed.getD 11 false = true) (h12 : listed.getD 12 false = true) (h13 : listed.getD 13 false = true) (h14 : listed.getD 14 false = true) (h15 : listed.getD 15 false = false) (h16 : listed.getD 16 false = false) (hsz : 15 < listed.size) (hdst : o.dst = some 81) (ho : o.op = .call { callee := .builtin .append, args := #[.tmp 77, .tmp 80], argTypes := #[24, 24] })
    (hel : ∀ w', Kp [] wb w' → ∀ y ∈ la, Sl w' y.1 y.2 ∧ Bs y.2) (hla : la.length ≤ 900) (hBM : Bs M) :
    wantsG KT (GT wb la D M (listed.setIfInBounds 15 true)) Try.prog ops o a w AnyT := by
  have hr77 := h.r77 h11 h15
  obtain ⟨g, c, q1, q2, q3, q4, q5, q6⟩ := h.lt h12 h15
  obtain ⟨g1, p1, p2, p3⟩ := h.o80 h14 h15
  rw [q1] at p2
  obtain ⟨v', w', hr, R, S⟩ := exec_append_at (.tmp 77) (.tmp 80) ho wb.heap.size _ _ rfl hr77 ⟨g1, 0, none⟩ 1 [.slice (some ⟨g, 0, none⟩) M.length c] p1 (fun j u hu => by
      have hj : j = 0 := by have := (List.getElem?_eq_some_iff.1 hu).1; simpa using this
      subst hj
      have : u = .slice (some ⟨g, 0, none⟩) M.length c := by simpa using hu.symm
      rw [this, Addr.add_zero']; exact p2) (by simp [Value.oneCell']) (by simp; omega) h.kp.size
  unfold wantsG
  rw [if_pos hw, hr]
  refine ⟨⟨trivial, ?_⟩, trivial⟩
  rw [hdst]
  have hz := S.1.size
  have hs := h.sz
  have hown : ∀ i ∈ (a.eval (.tmp 77)).ownBlock.toList, (a.eval (.tmp 77)).ownBlock = some i := fun i hi => by simpa [Option.mem_toList] using hi
  have hkp : Kp [] wb w' := h.kp.then S.1 (fun i hi => .inr (hr77.own i (hown i hi)))
  refine ⟨hkp, by rw [put_size]; exact h.sz, fun e1 e2 => ?_, fun e1 e2 => ?_, fun e1 e2 => ?_, fun e1 e2 => ?_, fun e1 e2 => ?_, fun e1 e2 => ?_, fun e1 e2 => ?_, fun e1 e2 => ?_⟩
  · rw [getD_set_neM (by decide), h11] at e2; cases e2
  · rw [getD_set_selfM 15 hsz] at e2; cases e2
  · rw [getD_set_selfM 15 hsz] at e2; cases e2
  · rw [getD_set_selfM 15 hsz] at e2; cases e2
  · rw [getD_set_selfM 15 hsz] at e2; cases e2
  · rw [eval_put_same (show (81 : Nat) < a.tmps.size by omega)]
    have hS : Sl w' (.slice (some ⟨g, 0, none⟩) M.length c) M := q2.kept S.1 (fun i hi hm => by
      have : i = g := by simpa [Value.ownBlock] using hi.symm
      rw [this] at hm; exact q6 h11 (hown g hm))
    refine ⟨la ++ [(.slice (some ⟨g, 0, none⟩) M.length c, M)], lists_of_rowv (by rw [List.map_append]; exact R) (by simp; omega) (fun y hy => ?_), by simp⟩
    rcases List.mem_append.1 hy with hy | hy
    · exact hel w' hkp y hy
    · obtain rfl : y = (.slice (some ⟨g, 0, none⟩) M.length c, M) := by simpa using hy
      exact ⟨hS, hBM⟩
  · rw [getD_set_neM (by decide)] at e1 e2
    obtain ⟨r1, r2⟩ := h.b73 e1 e2
    rw [eval_put_other (by decide), eval_put_other (by decide), eval_put_other (by decide)]
    refine ⟨r1.kept S.1 (fun i hi hm => (r2 i hi).2.2 h11 h15 (hown i hm)), fun i hi => ⟨by have := (r2 i hi).1; omega, fun _ f2 => ?_, fun _ f2 => ?_⟩⟩
    · rw [getD_set_neM (by decide), h11] at f2; cases f2
    · rw [getD_set_selfM 15 hsz] at f2; cases f2
  · rw [getD_set_neM (by decide), h16] at e1; cases e1
theorem GT.lay {ops : Array Oper} {o : Oper} (h : GT wb la D M listed a w) (hw : Region.wanted o (yielded ops a.tmps) = true) (h15 : listed.getD 15 false = true) (h16 : listed.getD 16 false = false) (hsz : 16 < listed.size) (x : Operand) {ats : Array TypeId} (ho : o.op = .call { callee := .value (.func 9), args := #[.tmp 81], argTypes := ats }) (hdst : o.dst = some 82) (hla : la.length ≤ 900) (hsm : ∀ r ∈ la.map (·.2) ++ [M], r.length ≤ 65535) (hD : D = layP (la.map (·.2) ++ [M])) :
    wantsG KT (GT wb la D M (listed.setIfInBounds 16 true)) Try.prog ops o a w AnyT := by
  obtain ⟨l', hL, hm⟩ := h.l81 h15 h16
  refine wantsG_callW hw ho Try.func9 (by kernel_rfl) (by kernel_rfl) ?_
  simp only [List.map_toArray, List.map_cons, List.map_nil]
  have hl : l'.length ≤ 1000 := by have := congrArg List.length hm; simp at this; omega
  refine (lay_any _ l' w hL (fun y hy => hsm y.2 (by rw [← hm]; exact List.mem_map_of_mem hy)) hl).mono ?_
  rintro e w' ⟨ao, m, c, rfl, R, K⟩
  refine ⟨_, rfl, ⟨trivial, ?_⟩, trivial⟩
  rw [hdst]
  rw [hm, ← hD] at R
  have hz := K.size
  have hs := h.sz
  refine ⟨h.kp.trans K, by rw [put_size]; exact h.sz, fun e1 e2 => ?_, fun e1 e2 => ?_, fun e1 e2 => ?_, fun e1 e2 => ?_, fun e1 e2 => ?_, fun e1 e2 => ?_, fun e1 e2 => ?_, fun e1 e2 => ?_⟩
  · rw [getD_set_neM (by decide)] at e1 e2; rw [eval_put_other (by decide)]; exact (h.r75 e1 e2).kept K (by simp)
  · rw [getD_set_neM (by decide)] at e1 e2; rw [eval_put_other (by decide)]; exact (h.r77 e1 e2).kept K (by simp)
  · rw [getD_set_neM (by decide), h15] at e2; cases e2
  · rw [getD_set_neM (by decide), h15] at e2; cases e2
  · rw [getD_set_neM (by decide), h15] at e2; cases e2
  · rw [getD_set_selfM 16 hsz] at e2; cases e2
  · rw [getD_set_neM (by decide)] at e1 e2
    obtain ⟨r1, r2⟩ := h.b73 e1 e2
    rw [eval_put_other (by decide), eval_put_other (by decide), eval_put_other (by decide), getD_set_neM (i := 16) (j := 9) (by decide), getD_set_neM (i := 16) (j := 11) (by decide), getD_set_neM (i := 16) (j := 15) (by decide)]
    exact ⟨r1.kept K (by simp), fun i hi => ⟨by have := (r2 i hi).1; omega, (r2 i hi).2⟩⟩
  · rw [eval_put_same (show (82 : Nat) < a.tmps.size by omega)]; exact R.sl
end
end Go.Proofs.Ytmpjgbckehnkjaa
