/-
  The contracts of add, takeLast, Append.
-/
import Derived.Test.YtiabccgabbdedaaDoorKCRange
namespace Go.Proofs.YtiabccgabbdedaaDoor
open Go.RowKit
open Go.Proofs

theorem cell_one (w : World) (v : Value) (t : TypeId) : ∀ j u, [v][j]? = some u → (w.alloc (.cells #[v] t)).cell? ((⟨w.heap.size, 0, none⟩ : Addr).add j) = some u := by
  intro j u hu
  exact World.news_of_block (heap_alloc_new w _) j u (by simpa using hu)

set_option maxHeartbeats 1000000 in
/-- one more slice behind a row that a pointer leads to. -/
theorem ladd_any (g off : Nat) (v : Value) (xs : List Value) (vx : Value) (base : Nat) (w : World) (hc : w.cell? ⟨g, off, none⟩ = some v) (hf : w.frozen? ⟨g, off, none⟩ = false) (hR : RowV w base v xs) (hg : v.ownBlock ≠ some g) (hx : ∃ ao m c, vx = .slice ao m c) (hl : xs.length ≤ 100000) (hb : base ≤ w.heap.size) :
    Calls Tryd.prog 31 #[.pointer (some ⟨g, off, none⟩), vx] w fun e w' => e = .returned (.tuple #[]) ∧ ∃ ao m c w1, w' = w1.setCell ⟨g, off, none⟩ (.slice ao m c) ∧ RowV w1 base (.slice ao m c) (xs ++ [vx]) ∧ RStep w v w1 (.slice ao m c) := by
  have hlt := World.block_lt_of_cell? _ _ hc
  obtain ⟨ao, cc, e⟩ := hR.shape
  obtain ⟨ax, mx, cx, rfl⟩ := hx
  have HR := hide (hR.kept ((Kp.refl [] w).alloc (.cells #[.slice ax mx cx] 28)) (by simp))
  have hone := cell_one w (.slice ax mx cx) 28
  have HB : Hid (base ≤ (w.alloc (.cells #[.slice ax mx cx] 28)).heap.size) := hide (by simp; omega)
  have HL : Hid (xs.length + [Value.slice ax mx cx].length ≤ 1000000000) := hide (by simp; omega)
  have HK := hide ((Kp.refl [] w).alloc (.cells #[.slice ax mx cx] 28))
  have HF : Hid (∀ W, Kp (v.ownBlock.toList) w W → W.cell? ⟨g, off, none⟩ = some v ∧ W.frozen? ⟨g, off, none⟩ = false) := fun W k => by
    have hb := k.block g hlt (by simpa [Option.mem_toList] using hg)
    refine ⟨k.cell hc (by simpa [Option.mem_toList] using hg), ?_⟩
    unfold World.frozen? at hf ⊢
    simp only at hf ⊢
    rw [hb]; exact hf
  obtain ⟨nx, hnx⟩ : ∃ nx, nx = xs.length := ⟨_, rfl⟩
  rw [← hnx] at e
  subst e
  clear hR hl hb hg hnx
  go_enter Tryd.func31, Tryd.ntmps31
  go_wp2_with (at_builtin; refine wpList_append_rowt rfl (.tmp 7) (.tmp 9) 47 Tryd.underlying47 rfl base _ xs rfl (unhide HR) ⟨w.heap.size, 0, none⟩ 1 [.slice ax mx cx] rfl hone (by simp [Value.oneCell']) (unhide HL) (unhide HB) ?_; intro ao2 m2 c2 w2 r2 s2; have s2' := s2.after (unhide HK); obtain ⟨c2e, f2e⟩ := unhide HF w2 s2'.1)
  go_end0
  refine ⟨rfl, ao2, m2, c2, w2, rfl, r2, ?_⟩
  exact s2'
/-- the range behind add. -/
theorem Rg.added {w w1 : World} {base p n : Nat} {v : Value} {l : List (Value × List Int)} {x : Value × List Int} {ao : Option Addr} {m c : Nat} (h : Rg w base p v n l) (hx : Row w base x.1 x.2) (hB : Bs x.2)
    (r : RowV w1 base (.slice ao m c) (l.map (·.1) ++ [x.1])) (s : RStep w v w1 (.slice ao m c)) : Rg (w1.setCell ⟨p, 1, none⟩ (.slice ao m c)) base p (.slice ao m c) n (l ++ [x]) ∧ RgS p w v (w1.setCell ⟨p, 1, none⟩ (.slice ao m c)) (.slice ao m c) := by
  have hp1 : w1.heap[p]? = some (.cells #[.int .u64 n, v] 49 (0, 0)) := s.1.heap h.here (by simpa [Option.mem_toList] using h.apart)
  have hne : (Value.slice ao m c).ownBlock ≠ some p := fun e => by
    obtain ⟨cc, hc⟩ := rowv_type r e
    rw [hp1] at hc
    injection hc with h1
    injection h1 with _ h2
    cases h2
  have K1 : Kp [p] w1 (w1.setCell ⟨p, 1, none⟩ (.slice ao m c)) := (Kp.refl [p] w1).setCell (p := ⟨p, 1, none⟩) (.inl (by simp)) _
  have node : ∀ y : Value × List Int, Row w base y.1 y.2 → Row (w1.setCell ⟨p, 1, none⟩ (.slice ao m c)) base y.1 y.2 ∧ ∀ k, y.1.ownBlock = some k → (Value.slice ao m c).ownBlock ≠ some k := by
    intro y hy
    have a1 : ∀ i, y.1.ownBlock = some i → v.ownBlock ≠ some i := fun i hi hv => by
      obtain ⟨c1, e1⟩ := row_type hy hi
      obtain ⟨c2, e2⟩ := rowv_type h.parts.1 hv
      rw [e1] at e2
      injection e2 with h1
      injection h1 with _ h2
      cases h2
    have y1 : Row w1 base y.1 y.2 := hy.kept s.1 (fun i hi hm => a1 i hi (by simpa [Option.mem_toList] using hm))
    refine ⟨y1.kept K1 (fun i hi hm => ?_), fun k hk hv => ?_⟩
    · obtain rfl : i = p := by simpa using hm
      obtain ⟨c1, e1⟩ := row_type y1 hi
      rw [hp1] at e1
      injection e1 with h1
      injection h1 with _ h2
      cases h2
    · obtain ⟨c1, e1⟩ := row_type y1 hk
      obtain ⟨c2, e2⟩ := rowv_type r hv
      rw [e1] at e2
      injection e2 with h1
      injection h1 with _ h2
      cases h2
  refine ⟨⟨(pair_setCell hp1).2, h.low, ?_, fun y hy => ?_⟩, ?_, fun k hk => s.2 k hk⟩
  · rw [List.map_append]
    exact r.kept K1 (fun i hi hm => hne (by simp at hm; rw [← hm]; exact hi))
  · rcases List.mem_append.1 hy with hy | hy
    · obtain ⟨h1, h2⟩ := node y (h.parts.2 y hy).1
      exact ⟨h1, (h.parts.2 y hy).2.1, h2⟩
    · obtain rfl : y = x := by simpa using hy
      obtain ⟨h1, h2⟩ := node y hx
      exact ⟨h1, hB, h2⟩
  · exact (s.1.mono (fun i hi => List.mem_cons_of_mem _ hi)).then K1 (fun i hi => .inl (by simp at hi; simp [hi]))
set_option maxHeartbeats 1000000 in
theorem radd_any (p : Nat) (v : Value) (n base : Nat) (l : List (Value × List Int)) (x : Value × List Int) (w : World) (h : Rg w base p v n l) (hx : Row w base x.1 x.2) (hB : Bs x.2) (hl : l.length ≤ 100000) (hb : base ≤ w.heap.size) :
    Calls Tryd.prog 31 #[.pointer (some ⟨p, 1, none⟩), x.1] w fun e w' => e = .returned (.tuple #[]) ∧ ∃ ao m c, Rg w' base p (.slice ao m c) n (l ++ [x]) ∧ RgS p w v w' (.slice ao m c) := by
  obtain ⟨ax, cx, ex⟩ := hx.shape
  refine (ladd_any p 1 v (l.map (·.1)) x.1 base w h.cell1 (h.frz 1) h.parts.1 h.apart ⟨_, _, _, ex⟩ (by simpa using hl) hb).mono ?_
  rintro e w' ⟨rfl, ao, m, c, w1, rfl, r, s⟩
  exact ⟨rfl, ao, m, c, h.added hx hB r s⟩

set_option maxHeartbeats 1000000 in
theorem takeLast_any (p : Nat) (v : Value) (n base : Nat) (l : List (Value × List Int)) (x : Value × List Int) (w : World) (h : Rg w base p v n (l ++ [x])) (hl : l.length ≤ 100000) :
    Calls Tryd.prog 30 #[.pointer (some ⟨p, 1, none⟩)] w fun e w' => e = .returned x.1 ∧ ∃ ao m c, Rg w' base p (.slice ao m c) n l ∧ RgS p w v w' (.slice ao m c) ∧ Row w' base x.1 x.2 := by
  have hc1 := h.cell1
  have hf1 := h.frz 1
  have hX := h.parts.2 x (by simp)
  obtain ⟨ax, cx, ex⟩ := hX.1.shape
  have hrow := h.parts.1
  rw [List.map_append] at hrow
  have hll : (l.map (·.1)).length = l.length := by simp
  rcases hrow.2 with ⟨e0, h0⟩ | ⟨g, cap, cur, rfl, hb, hg, hcap, hmax, _⟩
  · simp at h0
  · have hn1 : ((l.map (·.1)) ++ [x].map (·.1)).length = l.length + 1 := by simp
    rw [hn1] at hrow hc1 hcap h
    have hcl : w.cell? ⟨g, l.length, none⟩ = some x.1 := by
      have := hrow.cells (g := g) rfl l.length x.1 (by rw [List.getElem?_append_right (by simp), hll]; simp)
      rwa [Addr.add_lit, Nat.zero_add] at this
    have hgp : g ≠ p := fun e => h.apart (by rw [e]; rfl)
    have hfl : w.frozen? ⟨g, l.length, none⟩ = false := by
      unfold World.frozen?
      simp [hg]
    rw [ex] at hcl
    obtain ⟨nx, hnx⟩ : ∃ nx, nx = x.2.length := ⟨_, rfl⟩
    rw [← hnx] at hcl ex
    -- the worlds behind the two stores
    obtain ⟨w1, hw1⟩ : ∃ w1, w1 = w.setCell ⟨g, l.length, none⟩ (.slice none 0 0) := ⟨_, rfl⟩
    obtain ⟨w2, hw2⟩ : ∃ w2, w2 = w1.setCell ⟨p, 1, none⟩ (.slice (some ⟨g, 0, none⟩) l.length cap) := ⟨_, rfl⟩
    have K1 : Kp [g] w w1 := by rw [hw1]; exact (Kp.refl [g] w).setCell (p := ⟨g, l.length, none⟩) (.inl (by simp)) _
    have K2 : Kp [p] w1 w2 := by rw [hw2]; exact (Kp.refl [p] w1).setCell (p := ⟨p, 1, none⟩) (.inl (by simp)) _
    have hp1 := K1.heap h.here (by simp; exact fun e => hgp e.symm)
    have c1 : w1.cell? ⟨p, 1, none⟩ = some (.slice (some ⟨g, 0, none⟩) (l.length + 1) cap) := K1.cell hc1 (by simp; exact fun e => hgp e.symm)
    have f1 : w1.frozen? ⟨p, 1, none⟩ = false := by
      unfold World.frozen?
      simp [hp1]
    have R1 : RowV w1 base (.slice (some ⟨g, 0, none⟩) l.length cap) (l.map (·.1)) := by
      have := rowv_pop (xs := l.map (·.1)) (x := x.1) (c := cap) (g := g) (by rw [hll]; exact hrow) (.slice none 0 0)
      rw [hll] at this
      rw [hw1]; exact this
    have node : ∀ y ∈ l ++ [x], Row w2 base y.1 y.2 := by
      intro y hy
      refine ((h.parts.2 y hy).1.kept K1 (fun i hi hm => ?_)).kept K2 (fun i hi hm => ?_)
      · exact (h.parts.2 y hy).2.2 i hi (by simp at hm; rw [hm]; rfl)
      · obtain rfl : i = p := by simpa using hm
        exact h.nodeApart hy hi
    have FIN : Hid (Rg w2 base p (.slice (some ⟨g, 0, none⟩) l.length cap) n l ∧ RgS p w (.slice (some ⟨g, 0, none⟩) (l.length + 1) cap) w2 (.slice (some ⟨g, 0, none⟩) l.length cap) ∧ Row w2 base x.1 x.2) := by
      refine ⟨⟨by rw [hw2]; exact (pair_setCell hp1).2, h.low, R1.kept K2 (fun i hi hm => hgp (by simp at hm; cases hi; exact hm)), fun y hy => ⟨node y (by simp [hy]), (h.parts.2 y (by simp [hy])).2.1, fun k hk hv => (h.parts.2 y (by simp [hy])).2.2 k hk (by cases hv; rfl)⟩⟩, ⟨?_, fun k hk => .inl (by cases hk; rfl)⟩, node x (by simp)⟩
      exact (K1.mono (by simp [rfp, Value.ownBlock])).then K2 (fun i hi => .inl (by simp at hi; simp [rfp, hi]))
    have lt2 : (l.length : Int) < (cap : Int) := by omega
    have lt3 : (l.length : Int) ≤ (cap : Int) := by omega
    have hwr : wrap64 ((l.length : Int) + 1 - 1) = (l.length : Int) := by unfold wrap64; omega
    have FX := hide ex
    have HW2 := hide hw2
    rw [hn1, ex]
    rw [ex, hw2, hw1] at FIN
    rw [hw1] at c1 f1
    clear hrow hX R1 node K1 K2 hp1 h hg hmax hn1 hll ex hnx hw1 hw2 HW2
    go_enter Tryd.func30, Tryd.ntmps30
    go_wp2_with fail
    go_ret
    exact ⟨rfl, _, _, _, unhide FIN⟩
end Go.Proofs.YtiabccgabbdedaaDoor
