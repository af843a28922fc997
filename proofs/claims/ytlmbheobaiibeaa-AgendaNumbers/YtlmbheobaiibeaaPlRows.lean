/-
  Rows of times and things (two ints each): slices that read so, rows that the call owns, append from one onto the other.
-/
import Derived.Test.YtlmbheobaiibeaaAgTwo
namespace Go.Proofs.Ytlmbheobaiibeaa
open Go.RowKit Go.Sort Go.Lib

def cells2 (e : Int × Int) : List Value := [.int .i64 e.1, .int .i64 e.2]
def flat2 (l : List (Int × Int)) : List Value := l.flatMap cells2
theorem flat2_length (l : List (Int × Int)) : (flat2 l).length = l.length * 2 := by
  unfold flat2
  induction l with
  | nil => rfl
  | cons e l ih => rw [List.flatMap_cons, List.length_append, ih]; simp [cells2]; omega
theorem flat2_get (l : List (Int × Int)) (i c : Nat) (hc : c < 2) (hi : i < l.length) : (flat2 l)[i * 2 + c]? = (cells2 l[i])[c]? := by
  unfold flat2
  induction l generalizing i with
  | nil => cases hi
  | cons e l ih =>
    cases i with
    | zero =>
      simp only [List.flatMap_cons, Nat.zero_mul, Nat.zero_add, List.getElem_cons_zero]
      rw [List.getElem?_append_left (by simpa [cells2] using hc)]
    | succ i =>
      simp only [List.flatMap_cons, List.getElem_cons_succ]
      rw [List.getElem?_append_right (by simp [cells2]; omega), ← ih i (by simpa using hi)]
      congr 1
      simp [cells2]; omega
theorem flat2_app (l l' : List (Int × Int)) : flat2 (l ++ l') = flat2 l ++ flat2 l' := by simp [flat2]
theorem flat2_one (l : List (Int × Int)) : ∀ u ∈ flat2 l, u.oneCell' = true := by
  intro u hu
  obtain ⟨e, _, he⟩ := List.mem_flatMap.1 hu
  simp only [cells2, List.mem_cons, List.mem_nil_iff, or_false] at he
  rcases he with rfl | rfl <;> rfl
theorem Try.infoPr : (Try.prog.info? 45).map (fun i => (i.zero, i.size, i.bytes)) = some (some (.agg #[.int .i64 0, .int .i64 0]), 2, 16) := by kernel_rfl

/-- v is a slice that reads as these times and things. -/
def RefE (w : World) (v : Value) (l : List (Int × Int)) : Prop :=
  ∃ ao c, v = .slice ao l.length c ∧ l.length ≤ c ∧ c ≤ maxLen ∧ (ao = none → c = 0) ∧ ∀ a, ao = some a → a.spot = none ∧ ∀ j u, (flat2 l)[j]? = some u → w.cell? (a.add j) = some u
section
variable {w w' : World} {v v' : Value} {l l' : List (Int × Int)}
theorem RefE.kept (h : RefE w v l) {S : List Nat} (k : Kp S w w') (hd : ∀ i, v.ownBlock = some i → i ∉ S) : RefE w' v l := by
  obtain ⟨ao, c, rfl, h1, h2, h3, h4⟩ := h
  refine ⟨ao, c, rfl, h1, h2, h3, fun a ha => ⟨(h4 a ha).1, fun j u hu => k.cell ((h4 a ha).2 j u hu) ?_⟩⟩
  subst ha
  have := hd a.block rfl
  have e : (a.add j).block = a.block := by unfold Addr.add; split <;> rfl
  rw [e]
  exact this
theorem RefE.keptN (h : RefE w v l) (k : Kp [] w w') : RefE w' v l := h.kept k (fun _ _ => by simp)
theorem RefE.nil (w : World) : RefE w (.slice none 0 0) [] := ⟨none, 0, rfl, Nat.le_refl _, by simp [maxLen], fun _ => rfl, fun a h => by cases h⟩
/-- A row of the call's own. -/
def RowE (w : World) (v : Value) (l : List (Int × Int)) : Prop := w.ownsRow 0 45 2 v l.length (flat2 l)
theorem RowE.shape (h : RowE w v l) : ∃ ao c, v = .slice ao l.length c := by
  rcases h.2 with ⟨rfl, h0⟩ | ⟨g, cap, cur, rfl, _⟩
  · rw [h0]; exact ⟨_, _, rfl⟩
  · exact ⟨_, _, rfl⟩
theorem RowE.ref (h : RowE w v l) : RefE w v l := by
  rcases h.2 with ⟨rfl, h0⟩ | ⟨g, cap, cur, rfl, _, hg, hn, hm, _⟩
  · have : l = [] := List.eq_nil_of_length_eq_zero h0
    subst this
    exact RefE.nil w
  · refine ⟨some ⟨g, 0, none⟩, cap, rfl, hn, hm, (fun h => by cases h), fun a ha => ?_⟩
    cases ha
    exact ⟨rfl, h.cells (g := g) rfl⟩
theorem RowE.kept (h : RowE w v l) {S : List Nat} (k : Kp S w w') (hd : ∀ i, v.ownBlock = some i → i ∉ S) : RowE w' v l := k.owns h hd
theorem RowE.lt (h : RowE w v l) : ∀ i, v.ownBlock = some i → i < w.heap.size := fun i hi => (World.ownsRow.lt h i hi).2
/-- One step of a row. -/
def RSt (w : World) (v : Value) (w' : World) (v' : Value) : Prop := Kp v.ownBlock.toList w w' ∧ ∀ k, v'.ownBlock = some k → v.ownBlock = some k ∨ w.heap.size ≤ k
theorem run_app (t : TypeId) (base : Value) (l l' : List (Int × Int)) (vx : Value) (w : World) (hr : RowE w base l) (hx : RefE w vx l') (hb : l.length + l'.length ≤ 1000000) :
    ∃ ao m c w', (Builtin.append_ #[42, 42] t #[base, vx]).run Try.prog w = .ok (.slice ao m c) w' ∧ RowE w' (.slice ao m c) (l ++ l') ∧ RSt w base w' (.slice ao m c) := by
  obtain ⟨i0, hi0, hz0, hz1, hz2⟩ := info_parts Try.infoPr
  obtain ⟨ax, cx, rfl, h1, h2, h3, h4⟩ := hx
  cases ax with
  | none =>
    have h0 : l' = [] := List.eq_nil_of_length_eq_zero (by have := h3 rfl; omega)
    subst h0
    obtain rfl := h3 rfl
    have hrun := run_append_owned_none (P := Try.prog) (w := w) 0 42 t 45 i0 2 Try.underlying42 hi0 _ _ _ hr
    obtain ⟨ao, c, rfl⟩ := hr.shape
    exact ⟨ao, l.length, c, w, hrun, by rw [List.append_nil]; exact hr, Kp.refl _ _, fun _ h => .inl h⟩
  | some a =>
    obtain ⟨v', w1, hr1, hown1, hgrow, _, hat⟩ := run_append_own_at (P := Try.prog) w 0 42 t 45 i0 _ 2 16 Try.underlying42 hi0 hz0 hz1 hz2 rfl (by decide) _ l.length (flat2 l) hr a l'.length cx (flat2 l') (flat2_length l') (h4 a rfl).2 (flat2_one l') (by unfold maxLen; omega) (by omega) (Nat.zero_le _)
    have R : RowE w1 v' (l ++ l') := by unfold RowE; rw [List.length_append, flat2_app]; exact hown1
    obtain ⟨ao, c, rfl⟩ := R.shape
    refine ⟨ao, _, c, w1, hr1, R, (Kp.refl _ w).grown hgrow (fun k hk => .inl (by simp [hk])), fun k hk => ?_⟩
    rcases hat with e | e
    · exact .inl (e ▸ hk)
    · rw [e] at hk; cases hk; exact .inr (Nat.le_refl _)
theorem wpList_app {ops : Array Oper} {rest : List Oper} {o : Oper} {a : Act} {Q : Exit → Act → World → Prop} (hgd : o.guard = none) (s x : Operand)
    (ho : o.op = .call { callee := .builtin .append, args := #[s, x], argTypes := #[42, 42] }) (v : Value) (l : List (Int × Int)) (hs : a.eval s = v) (hr : RowE w v l) (vx : Value) (l' : List (Int × Int)) (hx : a.eval x = vx) (hS : RefE w vx l') (hb : l.length + l'.length ≤ 1000000)
    (h : ∀ ao m c w', RowE w' (.slice ao m c) (l ++ l') → RSt w v w' (.slice ao m c) → wpList Try.prog ops Q rest (a.put o.dst (.slice ao m c)) w') : wpList Try.prog ops Q (o :: rest) a w := by
  refine wpList_plain hgd fun K hK => ?_
  obtain ⟨ao, m, c, w1, hrun, h1, h2⟩ := run_app o.type v l l' vx w hr hS hb
  unfold Oper.wp execOp
  simp only [ho, resolve, invoke, builtin, Sem.run_bind, Sem.run_pure, Result.andThen_ok, List.map_toArray, List.map_cons, List.map_nil, hs, hx, hrun]
  exact hK _ _ (h ao m c w1 h1 h2)
theorem step_app {ops : Array Oper} {o : Oper} {a : Act} {K : Act → World → Prop} {Q : Exit → Act → World → Prop} {E : Prop} (hgd : o.guard = none) (s x : Operand)
    (ho : o.op = .call { callee := .builtin .append, args := #[s, x], argTypes := #[42, 42] }) (v : Value) (l : List (Int × Int)) (hs : a.eval s = v) (hr : RowE w v l) (vx : Value) (l' : List (Int × Int)) (hx : a.eval x = vx) (hS : RefE w vx l') (hb : l.length + l'.length ≤ 1000000)
    (h : ∀ ao m c w', RowE w' (.slice ao m c) (l ++ l') → RSt w v w' (.slice ao m c) → K (a.put o.dst (.slice ao m c)) w') :
    if Region.wanted o (yielded ops a.tmps) = true then Oper.wp Try.prog o a w K Q else E := by
  have hw : Region.wanted o (yielded ops a.tmps) = true := by simp [Region.wanted, hgd]
  rw [if_pos hw]
  obtain ⟨ao, m, c, w1, hrun, h1, h2⟩ := run_app o.type v l l' vx w hr hS hb
  unfold Oper.wp execOp
  simp only [ho, resolve, invoke, builtin, Sem.run_bind, Sem.run_pure, Result.andThen_ok, List.map_toArray, List.map_cons, List.map_nil, hs, hx, hrun]
  exact h ao m c w1 h1 h2
end

/-- The place, counted from the end, behind which a time belongs. -/
def plc (l : List (Int × Int)) (t : Int) : Nat → Nat
  | 0 => 0
  | k + 1 => if t < (l.getD k (0, 0)).1 then plc l t k else k + 1
theorem plc_le (l : List (Int × Int)) (t : Int) (k : Nat) : plc l t k ≤ k := by
  induction k with
  | zero => exact Nat.le_refl _
  | succ k ih => unfold plc; split; omega; exact Nat.le_refl _
/-- Times do not fall. -/
def Asc (l : List (Int × Int)) : Prop := l.Pairwise (fun a b => a.1 ≤ b.1)
theorem plc_spec (l : List (Int × Int)) (t : Int) : ∀ k, k ≤ l.length → (∀ i, plc l t k ≤ i → i < k → t < (l.getD i (0, 0)).1) ∧ (0 < plc l t k → ¬ t < (l.getD (plc l t k - 1) (0, 0)).1) := by
  intro k
  induction k with
  | zero => intro _; exact ⟨fun i h1 h2 => by omega, fun h => by simp [plc] at h⟩
  | succ k ih =>
    intro hk
    by_cases hc : t < (l.getD k (0, 0)).1
    · have e : plc l t (k + 1) = plc l t k := by rw [plc, if_pos hc]
      obtain ⟨h1, h2⟩ := ih (by omega)
      rw [e]
      refine ⟨fun i hi hik => ?_, h2⟩
      by_cases h : i = k
      · subst h; exact hc
      · exact h1 i hi (by omega)
    · have e : plc l t (k + 1) = k + 1 := by rw [plc, if_neg hc]
      rw [e]
      exact ⟨fun i h1 h2 => by omega, fun _ => by simpa using hc⟩
theorem putA_at (l : List (Int × Int)) (e : Int × Int) : ∀ k, k ≤ l.length → Asc l → (∀ i, k ≤ i → i < l.length → e.1 < (l.getD i (0, 0)).1) → (0 < k → ¬ e.1 < (l.getD (k - 1) (0, 0)).1) → putA l e = l.take k ++ [e] ++ l.drop k := by
  induction l with
  | nil => intro k hk _ _ _; have : k = 0 := by simpa using hk
           subst this; rfl
  | cons x l ih =>
    intro k hk ha h1 h2
    have hp := List.pairwise_cons.1 ha
    cases k with
    | zero =>
      have := h1 0 (Nat.le_refl _) (by simp)
      simp at this
      simp [putA, this]
    | succ k =>
      have hx : ¬ e.1 < x.1 := by
        have h3 := h2 (by omega)
        simp only [Nat.add_sub_cancel] at h3
        cases k with
        | zero => simpa using h3
        | succ k =>
          have hlt : k < l.length := by simp at hk; omega
          have := hp.1 l[k] (List.getElem_mem hlt)
          simp [hlt] at h3
          omega
      have := ih k (by simpa using hk) hp.2 (fun i hi hil => by have := h1 (i + 1) (by omega) (by simp; omega); simpa using this) (fun h0 => by
        have h3 := h2 (by omega)
        simp only [Nat.add_sub_cancel] at h3
        obtain ⟨k', rfl⟩ : ∃ k', k = k' + 1 := ⟨k - 1, by omega⟩
        simpa using h3)
      simp only [putA, hx, if_false, List.take_succ_cons, List.drop_succ_cons, List.cons_append]
      rw [this]
theorem putA_plc (l : List (Int × Int)) (e : Int × Int) (ha : Asc l) : l.take (plc l e.1 l.length) ++ [e] ++ l.drop (plc l e.1 l.length) = putA l e := by
  obtain ⟨h1, h2⟩ := plc_spec l e.1 l.length (Nat.le_refl _)
  exact (putA_at l e _ (plc_le _ _ _) ha h1 h2).symm
theorem asc_of_srt {m : List En} (h : Srt m) : Asc (m.map pr) := by
  refine List.pairwise_map.2 (h.imp (fun {a b} hab => ?_))
  unfold ltE at hab
  show a.at_ ≤ b.at_
  split at hab <;> simp at hab <;> omega
end Go.Proofs.Ytlmbheobaiibeaa
