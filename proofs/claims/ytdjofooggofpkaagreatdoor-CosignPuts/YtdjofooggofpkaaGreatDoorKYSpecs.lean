/-
  Chapter 11 as plain functions: what a witness signs, policies, cosignatures, how many witnesses they are of, their bytes.
-/
import Derived.Test.YtdjofooggofpkaaGreatDoorKXSpec
import Derived.Test.YtdjofooggofpkaaGreatDoorKTLcs
import Derived.Test.YtdjofooggofpkaaGreatDoorKSTree
import Derived.Test.YtdjofooggofpkaaGreatDoorKLFlats
import Derived.Test.YtdjofooggofpkaaGreatDoorKRGrows
import Derived.Laws.OwnMore
namespace Go.Proofs.YtdjofooggofpkaaGreatDoor
open Go.RowKit
open Go.Proofs

/-- the letters that stand ahead of what a witness signs. -/
def letW : List Int := [98, 114, 111, 97, 100, 115, 104, 101, 101, 116, 32, 99, 111, 115, 105, 103, 110]
def bodW (n : Int) (r : List Int) : List Int := if rgtC n r then letW ++ (be4 n ++ r) else []
theorem letW_bs : Bs letW := by
  intro b hb
  simp only [letW, List.mem_cons, List.not_mem_nil, or_false] at hb
  omega
theorem bodW_yes {n : Int} {r : List Int} (h : rgtC n r = true) : bodW n r = letW ++ (be4 n ++ r) := by unfold bodW; rw [if_pos h]
theorem bodW_no {n : Int} {r : List Int} (h : rgtC n r = false) : bodW n r = [] := by unfold bodW; rw [h]; rfl
theorem bodW_len {n : Int} {r : List Int} (h : rgtC n r = true) : (bodW n r).length = 53 := by
  rw [bodW_yes h]
  have := ((rgtC_iff n r).1 h).2
  simp only [List.length_append, show letW.length = 17 from rfl, be4_len, this]
theorem bodW_le (n : Int) (r : List Int) : (bodW n r).length ≤ 53 := by
  cases h : rgtC n r with
  | true => rw [bodW_len h]; omega
  | false => rw [bodW_no h]; simp
theorem bodW_bs (n : Int) (r : List Int) (h : Bs r) : Bs (bodW n r) := by
  cases h' : rgtC n r with
  | true => rw [bodW_yes h']; exact letW_bs.append ((be4_bs n).append h)
  | false => rw [bodW_no h']; intro b hb; cases hb
theorem bodW_ne {n : Int} {r : List Int} (h : rgtC n r = true) : bodW n r ≠ bodC n r := by
  intro e
  have h1 := bodW_len h
  have h2 := bodC_len h
  rw [e] at h1
  omega

/-- a policy: the log's key, the witnesses', how many are enough. -/
structure Po where
  lg : List Int
  ws : List (List Int)
  q : Int
/-- the first k of these are hashes, no two alike. -/
def keysK (ws : List (List Int)) (k : Nat) : Prop := ∀ i, i < k → (ws.getD i []).length = 32 ∧ ∀ j, j < i → ws.getD j [] ≠ ws.getD i []
instance (ws : List (List Int)) (k : Nat) : Decidable (keysK ws k) := by unfold keysK; infer_instance
def Po.rgt (p : Po) : Bool := (p.lg.length == 32) && (decide (p.ws.length ≤ 4) && (decide (1 ≤ p.q) && (decide (p.q ≤ p.ws.length) && decide (keysK p.ws p.ws.length))))
theorem keysK_zero (ws : List (List Int)) : keysK ws 0 := fun i hi => by omega
theorem keysK_succ {ws : List (List Int)} {k : Nat} (h : keysK ws k) (hl : (ws.getD k []).length = 32) (hn : ∀ j, j < k → ws.getD j [] ≠ ws.getD k []) : keysK ws (k + 1) := fun i hi => by
  rcases Nat.lt_or_ge i k with h1 | h1
  · exact h i h1
  · obtain rfl : i = k := by omega
    exact ⟨hl, hn⟩
theorem keysK_len {ws : List (List Int)} {k n : Nat} (hk : k < n) (hl : (ws.getD k []).length ≠ 32) : ¬ keysK ws n := fun h => hl (h k hk).1
theorem keysK_two {ws : List (List Int)} {k j n : Nat} (hk : k < n) (hj : j < k) (hl : ws.getD j [] = ws.getD k []) : ¬ keysK ws n := fun h => (h k hk).2 j hj hl
/-- a cosignature: whose, its key's number, its parts and path. -/
structure Co where
  k : Int
  i : Int
  ps : List (List Int)
  qs : List (List Int)
def co0 : Co := ⟨0, 0, [], []⟩
def verW (p : Po) (n : Int) (r : List Int) (c : Co) : Bool := p.rgt && (rgtC n r && (decide (0 ≤ c.k) && (decide (c.k < p.ws.length) && verP (p.ws.getD c.k.toNat []) (bodW n r) c.i c.ps c.qs)))
theorem verW_lt {p : Po} {n : Int} {r : List Int} {c : Co} (h : verW p n r c = true) : 0 ≤ c.k ∧ c.k < p.ws.length ∧ p.ws.length ≤ 4 := by
  simp only [verW, Po.rgt, Bool.and_eq_true, decide_eq_true_eq] at h
  exact ⟨h.2.2.1, h.2.2.2.1, h.1.2.1⟩
/-- has witness j one there that is right? -/
def seenW (p : Po) (n : Int) (r : List Int) (l : List Co) (j : Int) : Bool := l.any (fun c => decide (c.k = j) && verW p n r c)
def cntW (p : Po) (n : Int) (r : List Int) (l : List Co) : Nat := (seenW p n r l 0).toNat + (seenW p n r l 1).toNat + (seenW p n r l 2).toNat + (seenW p n r l 3).toNat
section
variable {p : Po} {n : Int} {r : List Int} {l : List Co} {c : Co}
theorem seenW_snoc (j : Int) : seenW p n r (l ++ [c]) j = (seenW p n r l j || (decide (c.k = j) && verW p n r c)) := by simp [seenW]
theorem seenW_no (h : verW p n r c = false ∨ seenW p n r l c.k = true) (j : Int) : seenW p n r (l ++ [c]) j = seenW p n r l j := by
  rw [seenW_snoc]
  rcases h with h | h
  · rw [h]; simp
  · by_cases e : c.k = j
    · rw [← e, h]; simp
    · simp [e]
theorem seenW_yes (h : verW p n r c = true) (j : Int) : seenW p n r (l ++ [c]) j = if j = c.k then true else seenW p n r l j := by
  rw [seenW_snoc, h]
  by_cases e : c.k = j
  · simp [e]
  · rw [if_neg (fun h => e h.symm)]; simp [e]
theorem cntW_no (h : verW p n r c = false ∨ seenW p n r l c.k = true) : cntW p n r (l ++ [c]) = cntW p n r l := by simp only [cntW, seenW_no h]
theorem cntW_yes (h : verW p n r c = true) (hs : seenW p n r l c.k = false) : cntW p n r (l ++ [c]) = cntW p n r l + 1 := by
  obtain ⟨h0, h1, h2⟩ := verW_lt h
  have : c.k = 0 ∨ c.k = 1 ∨ c.k = 2 ∨ c.k = 3 := by omega
  rcases this with e | e | e | e <;> rw [e] at hs <;> simp only [cntW, seenW_yes h, e, hs] <;> simp <;> omega
theorem cntW_le : cntW p n r l ≤ 4 := by
  have (b : Bool) : b.toNat ≤ 1 := by cases b <;> simp
  have h0 := this (seenW p n r l 0)
  have h1 := this (seenW p n r l 1)
  have h2 := this (seenW p n r l 2)
  have h3 := this (seenW p n r l 3)
  unfold cntW
  omega
theorem cntW_nil : cntW p n r [] = 0 := rfl
theorem cntW_same {l' : List Co} (h : ∀ j, seenW p n r l' j = seenW p n r l j) : cntW p n r l' = cntW p n r l := by simp only [cntW, h]
end
theorem be4_bs' (n : Int) : Bs (be4 n) := be4_bs n
/-- what a cosignature is laid down as. -/
def Co.lay (c : Co) : List Int := c.k :: encP c.i c.ps c.qs
def Co.ok (c : Co) : Bool := decide (0 ≤ c.k ∧ c.k < 4) && rgtP c.i c.ps c.qs
theorem Co.lay_len {c : Co} (h : c.ok = true) : c.lay.length = 2181 := by
  simp only [Co.ok, Bool.and_eq_true] at h
  simp only [Co.lay, List.length_cons, encP_len _ _ _ h.2]
theorem Co.lay_bs {c : Co} (h : c.ok = true) (hp : ∀ x ∈ c.ps, Bs x) (hq : ∀ x ∈ c.qs, Bs x) : Bs c.lay := by
  simp only [Co.ok, Bool.and_eq_true, decide_eq_true_eq] at h
  intro b hb
  rcases List.mem_cons.1 hb with rfl | hb
  · omega
  · exact encP_bs _ _ _ h.2 hp hq b hb
/-- the number and the signature's bytes, as a reader gives them. -/
def k1 (s : Bool × List Int) : List Int × Bool × List Int := tk s.1 s.2 1
def k2 (s : Bool × List Int) : List Int × Bool × List Int := tk (k1 s).2.1 (k1 s).2.2 2180
theorem k1_eq (s : Bool × List Int) : k1 s = tk s.1 s.2 1 := rfl
theorem k2_eq (s : Bool × List Int) : k2 s = tk (k1 s).2.1 (k1 s).2.2 2180 := rfl
def okK (s : Bool × List Int) : Bool := decide (val (k1 s).1 < 4) && decOk (k2 s).1
def coK (s : Bool × List Int) : Co := ⟨val (k1 s).1, val ((k2 s).1.take 4), chP 64 ((k2 s).1.drop 4), chP 4 ((k2 s).1.drop 2052)⟩
def ansK (s : Bool × List Int) : Co := if okK s then coK s else co0
theorem ansK_yes {s : Bool × List Int} (h : okK s = true) : ansK s = coK s := by unfold ansK; rw [if_pos h]
theorem ansK_no {s : Bool × List Int} (h : okK s = false) : ansK s = co0 := by unfold ansK; rw [h]; rfl
theorem ks_bs {s : Bool × List Int} (h : Bs s.2) : Bs (k1 s).1 ∧ Bs (k1 s).2.2 ∧ Bs (k2 s).1 ∧ Bs (k2 s).2.2 := by
  have h1 : Bs (k1 s).2.2 := tk_bs2 h
  exact ⟨tk_bs1 h, h1, tk_bs1 h1, tk_bs2 h1⟩
theorem ks_len (s : Bool × List Int) : (k1 s).2.2.length ≤ s.2.length ∧ (k2 s).2.2.length ≤ s.2.length := by
  have h1 := @tk_len s.1 s.2 1
  have h2 := @tk_len (k1 s).2.1 (k1 s).2.2 2180
  rw [← k1_eq] at h1
  rw [← k2_eq] at h2
  omega
theorem k1_val {s : Bool × List Int} (h : Bs s.2) : 0 ≤ val (k1 s).1 ∧ val (k1 s).1 ≤ 255 := by
  have h1 := val_bd _ (ks_bs h).1
  have h2 : (k1 s).1.length ≤ 1 := @tk_len1 s.1 s.2 1
  have : (k1 s).1.length = 0 ∨ (k1 s).1.length = 1 := by omega
  rcases this with e | e <;> rw [e] at h1 <;> omega
/-- the reference's way of asking. -/
theorem okK_ref {s : Bool × List Int} (h : s.1 = true → s.2 = []) : okK s = (decOk (k2 s).1 && (!(k2 s).2.1 && decide (val (k1 s).1 < 4))) := by
  unfold okK
  cases hd : decOk (k2 s).1 with
  | false => simp
  | true =>
    have h3 := tk_full (bad := (k1 s).2.1) (bs := (k1 s).2.2) (n := 2180) (by omega) (decOk_len hd)
    have h1 := tk_rest (bad := s.1) (bs := s.2) (n := 1) (by show 0 < (k1 s).2.2.length; omega)
    have hb : s.1 = false := by
      cases hs : s.1 with
      | false => rfl
      | true => have := h hs; rw [this] at h1; simp at h1
    have e1 : (k1 s).2.1 = false := by
      have : k1 s = _ := h1.2
      rw [this, hb]
    have e2 : (k2 s).2.1 = false := by
      have : k2 s = _ := h3.2
      rw [this, e1]
    rw [e2]
    simp
end Go.Proofs.YtdjofooggofpkaaGreatDoor

/-
  Policies (api.Policy) and cosignatures (api.Cosig) as values and in memory.
-/
namespace Go.Proofs.YtdjofooggofpkaaGreatDoor
open Go.RowKit
open Go.Proofs

theorem Tryz.polSize : (Tryz.prog.info? 83).map (·.size) = some 3 := by kernel_rfl
theorem Tryz.cosSize : (Tryz.prog.info? 26).map (·.size) = some 4 := by kernel_rfl
theorem Tryz.infoCos : (Tryz.prog.info? 26).map (fun i => (i.zero, i.size, i.bytes)) = some (some (.agg #[.int .i64 0, .int .i64 0, .slice none 0 0, .slice none 0 0]), 4, 64) := by kernel_rfl
/-- v is the policy p. -/
def PoV (w : World) (v : Value) (p : Po) : Prop := ∃ al ml cl aw mw cw l, v = .agg #[.slice al ml cl, .slice aw mw cw, .int .i64 p.q] ∧ (Sl w (.slice al ml cl) p.lg ∧ Bs p.lg) ∧ Lc w (.slice aw mw cw) l ∧ l.map (·.2) = p.ws
theorem PoV.kept {w w' : World} {v : Value} {p : Po} (h : PoV w v p) (k : Kp [] w w') : PoV w' v p := by
  obtain ⟨al, ml, cl, aw, mw, cw, l, e, h1, h2, h3⟩ := h
  exact ⟨al, ml, cl, aw, mw, cw, l, e, ⟨h1.1.kept k (by simp), h1.2⟩, h2.kept k, h3⟩
def PoT (p : Po) : Tell := fun v w => PoV w v p
theorem stable_po (p : Po) : Tell.stable (PoT p) := fun _ _ _ k h => h.kept k
/-- v is the cosignature c. -/
def CoV (w : World) (v : Value) (c : Co) : Prop := ∃ ap np cp aq nq cq, v = .agg #[.int .i64 c.k, .int .i64 c.i, .slice ap np cp, .slice aq nq cq] ∧ SigV w (.agg #[.int .i64 c.i, .slice ap np cp, .slice aq nq cq]) c.i c.ps c.qs
theorem CoV.kept {w w' : World} {v : Value} {c : Co} (h : CoV w v c) (k : Kp [] w w') : CoV w' v c := by
  obtain ⟨ap, np, cp, aq, nq, cq, e, h1⟩ := h
  exact ⟨ap, np, cp, aq, nq, cq, e, h1.kept k⟩
def CoT (c : Co) : Tell := fun v w => CoV w v c
theorem stable_co (c : Co) : Tell.stable (CoT c) := fun _ _ _ k h => h.kept k
/-- a cosignature that stays so, whatever becomes of the blocks below b. -/
def CoA (b : Nat) (w : World) (v : Value) (c : Co) : Prop := ∀ (S : List Nat) (w2 : World), (∀ q ∈ S, q < b) → Kp S w w2 → CoV w2 v c
theorem CoA.v {b : Nat} {w : World} {v : Value} {c : Co} (h : CoA b w v c) : CoV w v c := h [] w (by simp) (Kp.refl _ _)
theorem CoA.kept {b : Nat} {w w' : World} {v : Value} {c : Co} {S : List Nat} (h : CoA b w v c) (hS : ∀ q ∈ S, q < b) (k : Kp S w w') : CoA b w' v c := fun S2 w2 h2 k2 =>
  h (S ++ S2) w2 (fun q hq => (List.mem_append.1 hq).elim (hS q) (h2 q)) ((k.mono (by simp; intro x hx; exact .inl hx)).trans (k2.mono (by simp; intro x hx; exact .inr hx)))
theorem CoA.low {b d : Nat} {w : World} {v : Value} {c : Co} (h : CoA b w v c) (hc : d ≤ b) : CoA d w v c := fun S w2 h2 k2 => h S w2 (fun q hq => Nat.lt_of_lt_of_le (h2 q hq) hc) k2
def cos0 : Value := .agg #[.int .i64 0, .int .i64 0, .slice none 0 0, .slice none 0 0]
theorem cos0_v (w : World) : CoV w cos0 co0 := ⟨none, 0, 0, none, 0, 0, rfl, _, _, [], [], rfl, lists_nil _ _ _, rfl, lists_nil _ _ _, rfl⟩
/-- v is a slice of these cosignatures. -/
def CoL (w : World) (v : Value) (l : List Co) : Prop := ∃ ao c, v = .slice ao l.length c ∧ l.length ≤ 1000000 ∧ ∀ i (h : i < l.length), ∃ b off ap np cp aq nq cq, ao = some ⟨b, off, none⟩ ∧ w.rangeAt b (off + i * 4) [.int .i64 l[i].k, .int .i64 l[i].i, .slice ap np cp, .slice aq nq cq] ∧ SigV w (.agg #[.int .i64 l[i].i, .slice ap np cp, .slice aq nq cq]) l[i].i l[i].ps l[i].qs
theorem CoL.kept {w w' : World} {v : Value} {l : List Co} (h : CoL w v l) (k : Kp [] w w') : CoL w' v l := by
  obtain ⟨ao, c, e, h1, h2⟩ := h
  refine ⟨ao, c, e, h1, fun i hi => ?_⟩
  obtain ⟨b, off, ap, np, cp, aq, nq, cq, e, h3, h4⟩ := h2 i hi
  exact ⟨b, off, ap, np, cp, aq, nq, cq, e, fun j u hu => k.cell (h3 j u hu) (by simp), h4.kept k⟩
def CoLT (l : List Co) : Tell := fun v w => CoL w v l
theorem stable_col (l : List Co) : Tell.stable (CoLT l) := fun _ _ _ k h => h.kept k
theorem col_nil (w : World) (ao : Option Addr) (c : Nat) : CoL w (.slice ao 0 c) [] := ⟨ao, c, rfl, by simp, fun i hi => by cases hi⟩
/-- what is told of a row of cosignatures. -/
def CoP (l : List Co) (j : Nat) (w : World) (x : List Value) : Prop := CoV w (.agg x.toArray) (l.getD j co0)
theorem RowQ.col {T : TypeId} {l : List Co} {w wr : World} {v : Value} (h : RowQ T 4 (CoP l) l.length w v wr) (hl : l.length ≤ 1000000) : CoL wr v l := by
  obtain ⟨ao, c, rfl⟩ := h.shape
  refine ⟨ao, c, rfl, hl, fun i hi => ?_⟩
  obtain ⟨g, c', x, e, hx, hr, hp⟩ := h.at i hi
  injection e with e1
  obtain ⟨ap, np, cp, aq, nq, cq, e, hs⟩ := hp
  have hg : l.getD i co0 = l[i] := by simp [List.getD, hi]
  rw [hg] at e hs
  have ex : x = [.int .i64 l[i].k, .int .i64 l[i].i, .slice ap np cp, .slice aq nq cq] := by simpa using e
  rw [ex] at hr
  exact ⟨g, 0, ap, np, cp, aq, nq, cq, e1, by rw [Nat.zero_add]; exact hr, hs⟩
end Go.Proofs.YtdjofooggofpkaaGreatDoor

/-
  Which witnesses have one there, in memory; loads out of the middle of a block.
-/
namespace Go.Proofs.YtdjofooggofpkaaGreatDoor
open Go.RowKit
open Go.Proofs

/-- whether each witness has one there, in memory. -/
def hasW (p : Po) (n : Int) (r : List Int) (l : List Co) : Array Value := #[.bool (seenW p n r l 0), .bool (seenW p n r l 1), .bool (seenW p n r l 2), .bool (seenW p n r l 3)]
theorem hasW_at (p : Po) (n : Int) (r : List Int) (l : List Co) (k : Nat) (hk : k < 4) : (hasW p n r l)[k]? = some (.bool (seenW p n r l k)) := by
  have : k = 0 ∨ k = 1 ∨ k = 2 ∨ k = 3 := by omega
  rcases this with rfl | rfl | rfl | rfl <;> rfl
theorem hasW_set {p : Po} {n : Int} {r : List Int} {l : List Co} {c : Co} {k : Nat} (hk : c.k = k) (h4 : k < 4) (h : verW p n r c = true) : (hasW p n r l).setIfInBounds k (.bool true) = hasW p n r (l ++ [c]) := by
  unfold hasW
  simp only [seenW_yes h, hk]
  have : k = 0 ∨ k = 1 ∨ k = 2 ∨ k = 3 := by omega
  rcases this with rfl | rfl | rfl | rfl <;> simp
theorem hasW_same {p : Po} {n : Int} {r : List Int} {l : List Co} {c : Co} (h : verW p n r c = false ∨ seenW p n r l c.k = true) : hasW p n r (l ++ [c]) = hasW p n r l := by
  unfold hasW
  simp only [seenW_no h]
theorem grown_loadm {o : Oper} {a : Act} {w : World} {R : Tell} (T : TypeId) (p : Operand) (ho : o.op = .load T p) (g off : Nat) (hp : a.eval p = .pointer (some ⟨g, off, none⟩)) (v : Value) (hl : (loadVar T ⟨g, off, none⟩).run Tryz.prog w = .ok v w) (hR : R v w) : grown Tryz.prog w R ((execOp a.eval o).run Tryz.prog w) := by
  refine grown_run ?_ (Kp.refl _ _) hR
  unfold execOp
  simp only [ho, hp, Instr.loadAt, Instr.sureAddr, Sem.run_bind, Sem.run_pure, Result.andThen_ok, hl]
theorem Tryz.infoB : (Tryz.prog.info? 4).map (fun i => (i.zero, i.size, i.bytes)) = some (some (.bool false), 1, 1) := by kernel_rfl
end Go.Proofs.YtdjofooggofpkaaGreatDoor
