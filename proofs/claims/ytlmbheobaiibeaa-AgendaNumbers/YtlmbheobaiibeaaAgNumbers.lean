/-
  AgendaNumbers: a row of asks that the statement builds itself, and another beside it.
-/
import Derived.Test.YtlmbheobaiibeaaPlWalk
namespace Go.Proofs.Ytlmbheobaiibeaa
open Go.RowKit Go.Sort Go.Lib

def flatE (l : List En) : List Value := l.flatMap En.cells
theorem flatE_length (l : List En) : (flatE l).length = l.length * 3 := by
  unfold flatE
  induction l with
  | nil => rfl
  | cons e l ih => rw [List.flatMap_cons, List.length_append, ih]; simp [En.cells]; omega
theorem flatE_one (l : List En) : ∀ u ∈ flatE l, u.oneCell' = true := by
  intro u hu
  obtain ⟨e, _, he⟩ := List.mem_flatMap.1 hu
  simp only [En.cells, List.mem_cons, List.mem_nil_iff, or_false] at he
  rcases he with rfl | rfl | rfl <;> rfl
theorem Try.infoAsk3 : (Try.prog.info? 24).map (fun i => (i.zero, i.size, i.bytes)) = some (some (.agg #[.int .i64 0, .int .i64 0, .int .i64 0]), 3, 24) := by kernel_rfl
/-- A row of asks of the call's own, new since w. -/
def MkA (w w1 : World) (v : Value) (l : List En) : Prop := w1.ownsRow 0 24 3 v l.length (flatE l) ∧ Kp [] w w1 ∧ ∀ i, v.ownBlock = some i → w.heap.size ≤ i
section
variable {w w0 w1 w2 : World} {v v2 : Value} {l l2 l' : List En}
theorem MkA.alloc (h : MkA w w1 v l) (o : Obj) : MkA w (w1.alloc o) v l := ⟨((Kp.refl [] w1).alloc o).owns h.1 (fun _ _ => by simp), h.2.1.alloc o, h.2.2⟩
theorem MkA.none (w : World) : MkA w w (.slice none 0 0) [] := ⟨⟨rfl, .inl ⟨rfl, rfl⟩⟩, Kp.refl _ _, fun i hi => by cases hi⟩
theorem MkA.shape (h : MkA w w1 v l) : ∃ ao c, v = .slice ao l.length c := by
  rcases h.1.2 with ⟨rfl, h0⟩ | ⟨g, cap, cur, rfl, _⟩
  · rw [h0]; exact ⟨_, _, rfl⟩
  · exact ⟨_, _, rfl⟩
theorem asks_of_cells {b n c : Nat} (hn : n = l.length) (hc : n ≤ c) (h : ∀ j u, (flatE l)[j]? = some u → w.cell? ⟨b, j, none⟩ = some u) : ∃ ks, Asks3 w (.slice (some ⟨b, 0, none⟩) n c) ks := by
  refine ⟨l.map (fun e => (e.at_, e.num, e.what)), some ⟨b, 0, none⟩, c, by rw [List.length_map, hn], by rw [List.length_map]; omega, fun i hi => ⟨b, 0, rfl, ?_⟩⟩
  rw [List.length_map] at hi
  have hg : (l.map (fun e => (e.at_, e.num, e.what))).getD i (0, 0, 0) = (l[i].at_, l[i].num, l[i].what) := by simp [hi]
  rw [hg]
  have key : ∀ c' u, c' < 3 → (l[i].cells)[c']? = some u → w.cell? ⟨b, i * 3 + c', none⟩ = some u := fun c' u hc' hu => h _ _ (by unfold flatE; rw [flatL_get _ _ _ hc', List.getElem?_eq_getElem hi]; exact hu)
  refine ⟨?_, ?_, ?_⟩
  · have := key 0 _ (by omega) rfl; simpa using this
  · have := key 1 _ (by omega) rfl; simpa using this
  · have := key 2 _ (by omega) rfl; simpa using this
theorem MkA.asks (h : MkA w w1 v l) : ∃ ks, Asks3 w1 v ks := by
  rcases h.1.2 with ⟨rfl, h0⟩ | ⟨g, cap, cur, rfl, _, hg, hn, hm, _⟩
  · exact ⟨[], Option.none, 0, rfl, Nat.le_refl _, fun i hi => by cases hi⟩
  · refine asks_of_cells rfl hn (fun j u hu => ?_)
    have := h.1.cells (g := g) rfl j u hu
    rw [Addr.add_lit, Nat.zero_add] at this
    exact this
theorem lit_cells (w : World) (xs : List Value) (t : TypeId) : ∀ j u, xs[j]? = some u → (w.alloc (.cells xs.toArray t)).cell? ⟨w.heap.size, j, none⟩ = some u := by
  intro j u hj
  rw [World.cell?_alloc_at _ _ _ _ rfl]
  simpa using hj
theorem wpList_appA {ops : Array Oper} {rest : List Oper} {o : Oper} {a : Act} {Q : Exit → Act → World → Prop} (hgd : o.guard = none) (s x : Operand)
    (ho : o.op = .call { callee := .builtin .append, args := #[s, x], argTypes := #[22, 22] }) (v : Value) (l l' : List En) (hs : a.eval s = v) (hr : MkA w0 w v l) (hx : a.eval x = .slice (some ⟨w.heap.size, 0, none⟩) l'.length l'.length) (hb : l.length + l'.length ≤ 1000)
    (h : ∀ ao m c w', MkA w0 w' (.slice ao m c) (l ++ l') → wpList Try.prog ops Q rest (a.put o.dst (.slice ao m c)) w') : wpList Try.prog ops Q (o :: rest) a (w.alloc (.cells (flatE l').toArray 24)) := by
  obtain ⟨i0, hi0, hz0, hz1, hz2⟩ := info_parts Try.infoAsk3
  refine wpList_plain hgd fun K hK => ?_
  have hr' := hr.alloc (.cells (flatE l').toArray 24)
  obtain ⟨v', w2, hr1, hown1, hgrow, _, hat⟩ := run_append_own_at (P := Try.prog) (w.alloc (.cells (flatE l').toArray 24)) 0 22 o.type 24 i0 _ 3 24 Try.underlying22 hi0 hz0 hz1 hz2 rfl (by decide) _ l.length (flatE l) hr'.1 ⟨w.heap.size, 0, none⟩ l'.length l'.length (flatE l') (flatE_length l') (fun j u hu => by rw [Addr.add_lit, Nat.zero_add]; exact lit_cells w _ _ j u hu) (flatE_one l') (by unfold maxLen; omega) (by omega) (Nat.zero_le _)
  have M : MkA w0 w2 v' (l ++ l') := by
    refine ⟨by rw [List.length_append]; unfold flatE at *; rw [List.flatMap_append]; exact hown1, hr'.2.1.grown hgrow (fun k hk => .inr (hr'.2.2 k hk)), fun i hi => ?_⟩
    rcases hat with e | e
    · exact hr'.2.2 i (e ▸ hi)
    · rw [e] at hi; cases hi; exact hr'.2.1.size
  obtain ⟨ao, c, rfl⟩ := M.shape
  unfold Oper.wp execOp
  simp only [ho, resolve, invoke, builtin, Sem.run_bind, Sem.run_pure, Result.andThen_ok, List.map_toArray, List.map_cons, List.map_nil, hs, hx, hr1]
  exact hK _ _ (h ao _ c w2 M)
end

theorem play_lit (l : List En) (w : World) : Calls Try.prog 9 #[.slice (some ⟨w.heap.size, 0, none⟩) l.length l.length] (w.alloc (.cells (flatE l).toArray 24)) fun e w' => e = .returned (.bool true) ∧ Kp [] (w.alloc (.cells (flatE l).toArray 24)) w' := by
  obtain ⟨ks, h⟩ := asks_of_cells (l := l) (b := w.heap.size) (c := l.length) rfl (Nat.le_refl _) (lit_cells w (flatE l) 24)
  exact play_any _ ks _ h
set_option maxHeartbeats 8000000 in
set_option maxRecDepth 100000 in
theorem numbers_walk (w : World) : Calls Try.prog 3 #[] w fun e w' => e = .returned (.bool true) ∧ Kp [] w w' := by
  go_enter Try.func3, Try.ntmps3
  go_wp2_with fail
  go_loopg [1, 2] 30 (fun kx s1 s2 wr => ∃ i : Nat, s2 = .int .i64 i ∧ i ≤ 30 ∧ 30 - i ≤ kx ∧ Hid (∃ l, l.length = i ∧ MkA w wr s1 l))
  case atStart => exact ⟨0, rfl, by omega, by omega, [], rfl, MkA.none w⟩
  case round =>
    obtain ⟨i, rfl, hi, hkx, HI⟩ := hrel
    obtain ⟨l, hl, M⟩ := HI.out
    clear HI
    by_cases hgo : i < 30
    · have hiz : (i : Int) < 30 := by omega
      have HM := hide M
      have hll : l.length ≤ 30 := by omega
      clear M
      go_wp2_with (at_builtin; refine wpList_appA rfl (.tmp 8) (.tmp 15) rfl _ l [⟨1, _, _⟩] rfl (by exact HM.out) rfl (by simp; omega) ?_; intro ao5 m5 q5 w5 M5)
      go_roundg (30 - (i + 1))
      case measure => omega
      case rel => exact ⟨i + 1, by go_num, by omega, Nat.le_refl _, _, by simp [hl], M5⟩
    · have hiz : ¬ (i : Int) < 30 := by omega
      have HM0 : Hid (∃ l, l.length ≤ 30 + 3 * 0 ∧ MkA w wr u1 l) := ⟨l, by omega, M⟩
      clear M hl hgo
      clear l
      go_wp2_with fail
      go_loopg [1, 3] 6 (fun kx s1 s3 wr => ∃ i : Nat, s3 = .int .i64 ((i : Int) - 1) ∧ i ≤ 6 ∧ 6 - i ≤ kx ∧ Hid (∃ l, l.length ≤ 30 + 3 * i ∧ MkA w wr s1 l))
      case atStart => exact ⟨0, rfl, by omega, by omega, HM0⟩
      case round =>
        clear HM0
        obtain ⟨j, rfl, hj, hkj, HI⟩ := hrel
        obtain ⟨l, hl, M⟩ := HI.out
        clear HI
        have HM := hide M
        have hll : l.length ≤ 60 := by omega
        clear M
        obtain ⟨z, hz⟩ : ∃ z : Int, z = (j : Int) - 1 := ⟨_, rfl⟩
        rw [← hz]
        by_cases hgj : j < 6
        · have hzz : z < 5 := by omega
          have hzl : -1 ≤ z := by omega
          have HZ := hide hz
          clear hz
          go_wp2_with (at_builtin; refine wpList_appA rfl (.tmp 21) (.tmp 28) rfl _ l [⟨2, z, 0⟩, ⟨3, 0, z⟩, ⟨2, z, 0⟩] rfl (by exact HM.out) rfl (by simp; omega) ?_; intro ao5 m5 q5 w5 M5)
          go_roundg (6 - (j + 1))
          case measure => omega
          case rel => exact ⟨j + 1, by have := HZ.out; congr 1; omega, by omega, Nat.le_refl _, _, by simp; omega, M5⟩
        · have hzz : ¬ z < 5 := by omega
          obtain ⟨ks, hA⟩ := HM.out.asks
          have hp := play_any _ ks wr hA
          clear hA hz
          obtain ⟨ao, c, hs⟩ := HM.out.shape
          subst hs
          go_wp2_with (first
            | (go_at_call 9; refine hp.mono ?_; rintro e w1 ⟨rfl, k1⟩; clear hp)
            | (go_at_call 9; refine (play_lit [⟨2, 1099511627776, 0⟩, ⟨3, 0, 0⟩, ⟨1, -4611686018427387904, -5⟩, ⟨1, 4611686018427387904, 5⟩, ⟨2, 0, 0⟩, ⟨2, 4611686018427387904, 0⟩] w1).mono ?_; rintro e w2 ⟨rfl, k2⟩; have hkn := known_any w2)
            | (go_at_call 10; refine hkn.mono ?_; rintro e w3 ⟨rfl, k3⟩; clear hkn))
          go_ret
          exact ⟨rfl, ((HM.out.2.1.trans k1).trans (((Kp.refl [] w1).alloc _).trans k2)).trans k3⟩
end Go.Proofs.Ytlmbheobaiibeaa
