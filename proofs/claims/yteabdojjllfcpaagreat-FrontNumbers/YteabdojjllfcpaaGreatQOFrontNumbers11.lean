/-
  Rows of asks that a call makes itself; a disk that holds given bytes.
-/
import Derived.Test.YteabdojjllfcpaaGreatQOFrontNumbers10
namespace Go.Proofs.YteabdojjllfcpaaGreat
open Go.ChangeShapes Go.WideShapes Go.ChangeAt Go.RowKit
open Go.Proofs
open Go.Deep
set_option linter.unusedVariables false
set_option maxHeartbeats 1000000 in
theorem fon_any (vb : Value) (b : List Int) (w : World) (hS : Sl w vb b) (hB : Bs b) (hl : b.length ≤ 1048576) :
    Calls Tryz.prog 13 #[vb] w fun e w' => ∃ p v, e = .returned (.pointer (some ⟨p, 0, none⟩)) ∧ Nw w w' p v (dkOn b) := by
  have HA : Hid ((dkOn []).app b = (true, ⟨b, 0, 1048576, 0, false⟩)) := by
    have h1 := Dk.app_plain (d := dkOn []) rfl (Int.le_refl 0) b (by show ((0 + b.length : Nat) : Int) ≤ 1048576; omega)
    exact h1
  have HY : Hid ((⟨b, 0, 1048576, 0, false⟩ : Dk).sync = (true, dkOn b)) := Dk.sync_plain (d := ⟨b, 0, 1048576, 0, false⟩) rfl (Int.le_refl 0)
  have HS := hide (fun w' (k : Kp [] w w') => hS.kept k (by simp))
  have HB := hide hB
  have HF := hide (ffresh_any w)
  obtain ⟨ab, cb, hvb, -⟩ := hS
  obtain ⟨nb, hnb⟩ : ∃ n, n = b.length := ⟨_, rfl⟩
  rw [← hnb] at hvb
  subst hvb
  clear hB hl hnb
  go_enter Tryz.func13, Tryz.ntmps13
  go_wp2_with fail
  refine HF.out.mono ?_
  rintro ee w1 ⟨p, rfl, N1⟩
  have HN1 := hide N1
  have HAp := hide (nw_append N1 (HS.out w1 N1.kp) HB.out true HA.out 0 rfl)
  clear HF N1
  go_wp2_with fail
  refine HAp.out.mono ?_
  rintro ee w2 ⟨rfl, v2, N2, -⟩
  have HSy := hide (nw_sync N2 true HY.out 0 rfl)
  clear HAp N2
  go_wp2_with fail
  refine HSy.out.mono ?_
  rintro ee w3 ⟨rfl, N3, -⟩
  have HN3 := hide N3
  clear HSy N3
  go_wp2_with fail
  go_ret
  exact ⟨p, v2, rfl, HN3.out⟩
theorem flatF_at (sz : Nat) (xs : List (List Value)) (h : ∀ x ∈ xs, x.length = sz) : ∀ (i c : Nat) (hi : i < xs.length), c < sz → xs.flatten[i * sz + c]? = xs[i][c]? := by
  induction xs with
  | nil => intro i c hi; cases hi
  | cons x xs ih =>
    intro i c hi hc
    have hx : x.length = sz := h x (by simp)
    cases i with
    | zero =>
      rw [List.flatten_cons, List.getElem?_append_left (by omega)]
      simp
    | succ i =>
      have e : (i + 1) * sz + c - x.length = i * sz + c := by rw [Nat.add_mul, hx]; omega
      rw [List.flatten_cons, List.getElem?_append_right (by rw [Nat.add_mul, hx]; omega), e, ih (fun y hy => h y (by simp [hy])) i c (by simpa using hi) hc]
      simp
abbrev TyA : TypeId := 39
def AskFE.row (x : AskFE) : List Value := [.int .i64 x.kind, .int .i64 x.a, .int .i64 x.v, .int .i64 x.nw, x.vb]
def flatF (l : List AskFE) : List Value := (l.map AskFE.row).flatten
theorem flatF_len (l : List AskFE) : (flatF l).length = l.length * 5 := by
  unfold flatF
  induction l with
  | nil => rfl
  | cons x l ih => rw [List.map_cons, List.flatten_cons, List.length_append, ih]; simp [AskFE.row]; omega
theorem flatF_app (l l' : List AskFE) : flatF (l ++ l') = flatF l ++ flatF l' := by simp [flatF]
/-- an ask without bytes. -/
def NilA (x : AskFE) : Prop := x.vb = .slice none 0 0 ∧ x.bs = []
def AskRF (w : World) (base : Nat) (v : Value) (l : List AskFE) : Prop := w.ownsRow base TyA 5 v l.length (flatF l) ∧ ∀ x ∈ l, NilA x
section
variable {w w' : World} {base : Nat} {v : Value} {l : List AskFE}
theorem AskRF.none (w : World) (base : Nat) : AskRF w base (.slice none 0 0) [] := ⟨World.ownsRow_nil _ _ _ _, by simp⟩
theorem AskRF.keptN (h : AskRF w base v l) (k : Kp [] w w') : AskRF w' base v l := ⟨k.owns h.1 (by simp), h.2⟩
theorem AskRF.shape (h : AskRF w base v l) : ∃ ao c, v = .slice ao l.length c := by
  rcases h.1.2 with ⟨rfl, h0⟩ | ⟨g, cap, cur, rfl, _⟩
  · rw [h0]; exact ⟨_, _, rfl⟩
  · exact ⟨_, _, rfl⟩
theorem AskRF.askF (h : AskRF w base v l) (hl : l.length ≤ 1000) : AskF w v l := by
  obtain ⟨ao, c, rfl⟩ := h.shape
  refine ⟨ao, c, rfl, by omega, fun i hi => ?_⟩
  rcases h.1.2 with ⟨e, h0⟩ | ⟨g, cap, cur, e, hr⟩
  · omega
  · injection e with e1 e2 e3
    subst e1
    obtain ⟨n1, n2⟩ := h.2 _ (List.getElem_mem hi)
    refine ⟨g, 0, rfl, fun j u hu => ?_, by rw [n1, n2]; exact Sl.nil w, by rw [n2]; intro b hb; cases hb⟩
    have hj : j < 5 := by have := (List.getElem?_eq_some_iff.1 hu).1; simpa using this
    have h1 : (flatF l)[i * 5 + j]? = some u := by
      unfold flatF
      rw [flatF_at 5 (l.map AskFE.row) (fun y hy => by obtain ⟨x, _, rfl⟩ := List.mem_map.1 hy; rfl) i j (by simpa using hi) hj, List.getElem_map]
      exact hu
    have := h.1.cells (g := g) rfl _ _ h1
    rw [Addr.add_lit] at this
    rw [Nat.zero_add] at this ⊢
    exact this
theorem Tryz.infoAskF : (Tryz.prog.info? TyA).map (fun i => (i.zero, i.size, i.bytes)) = some (some (.agg #[.int .i64 0, .int .i64 0, .int .i64 0, .int .i64 0, .slice none 0 0]), 5, 56) := by kernel_rfl
theorem flatF_one {l : List AskFE} (h : ∀ x ∈ l, NilA x) : ∀ u ∈ flatF l, u.oneCell' = true := by
  intro u hu
  unfold flatF at hu
  obtain ⟨r, hr, hu⟩ := List.mem_flatten.1 hu
  obtain ⟨x, hx, rfl⟩ := List.mem_map.1 hr
  obtain ⟨e, -⟩ := h x hx
  simp only [AskFE.row, List.mem_cons, List.mem_nil_iff, or_false] at hu
  rcases hu with rfl | rfl | rfl | rfl | rfl
  · rfl
  · rfl
  · rfl
  · rfl
  · rw [e]; rfl
/-- more asks behind. -/
theorem wpList_asksF {wb : World} {ops : Array Oper} {rest : List Oper} {o : Oper} {a : Act} {Q : Exit → Act → World → Prop} (hgd : o.guard = none) (s x : Operand)
    (ho : o.op = .call { callee := .builtin .append, args := #[s, x], argTypes := #[37, 37] }) (base : Nat) (v : Value) (xs ys : List AskFE) (hs : a.eval s = v) (hR : AskRF w base v xs) (m : Nat) (hm : m = ys.length) (hx : a.eval x = .slice (some ⟨w.heap.size, 0, none⟩) m m) (hy : ∀ y ∈ ys, NilA y)
    (hw : wb = w.alloc (.cells (flatF ys).toArray TyA)) (hb : xs.length + ys.length ≤ 1000) (hbase : base ≤ w.heap.size)
    (h : ∀ ao m c w', AskRF w' base (.slice ao m c) (xs ++ ys) → (∀ w0, w0.heap.size ≤ base → Kp [] w0 w → Kp [] w0 w') → wpList Tryz.prog ops Q rest (a.put o.dst (.slice ao m c)) w') : wpList Tryz.prog ops Q (o :: rest) a wb := by
  subst hw
  subst hm
  obtain ⟨i0, hi0, hz0, hz1, hz2⟩ := info_parts Tryz.infoAskF
  have k0 : Kp [] w (w.alloc (.cells (flatF ys).toArray TyA)) := (Kp.refl [] w).alloc _
  have hR2 := hR.keptN k0
  refine wpList_append_own_at _ hgd s x 37 ho base TyA i0 (.agg #[.int .i64 0, .int .i64 0, .int .i64 0, .int .i64 0, .slice none 0 0]) 5 56 Tryz.underlying37 hi0 hz0 hz1 hz2 rfl (by decide) v xs.length (flatF xs) hs hR2.1 ⟨w.heap.size, 0, none⟩ ys.length ys.length (flatF ys) hx (flatF_len ys) (fun j u hu => World.news_of_block (heap_alloc_new w _) j u (by simpa using hu)) (flatF_one hy) (by unfold maxLen; omega) (by omega) (Nat.le_trans hbase k0.size) ?_
  intro v' w1 hown hgrow _ hat
  have kg : Kp v.ownBlock.toList (w.alloc (.cells (flatF ys).toArray TyA)) w1 := (Kp.refl _ _).grown hgrow (fun k hk => .inl (by simp [hk]))
  have R : AskRF w1 base v' (xs ++ ys) := ⟨by rw [List.length_append, flatF_app]; exact hown, fun y hy' => by
    rcases List.mem_append.1 hy' with h1 | h1
    · exact hR2.2 y h1
    · exact hy y h1⟩
  obtain ⟨ao', c', hv⟩ := R.shape
  subst hv
  exact h ao' _ c' w1 R (fun w0 hb0 k => (k.trans k0).then kg (fun i hi => .inr (by
    rcases hR2.1.2 with ⟨e, _⟩ | ⟨g, cap, cur, e, hbg, _⟩
    · rw [e] at hi; simp [Value.ownBlock] at hi
    · rw [e] at hi
      have : g = i := by simpa [Value.ownBlock, eq_comm] using hi
      omega)))
end
end Go.Proofs.YteabdojjllfcpaaGreat
