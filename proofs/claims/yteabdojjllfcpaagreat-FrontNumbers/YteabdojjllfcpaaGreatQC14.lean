/-
  The contracts of Digest, of the program and of the reference.
-/
import Derived.Test.YteabdojjllfcpaaGreatQC13
import Derived.Test.YteabdojjllfcpaaGreatQC10
import Derived.Test.YteabdojjllfcpaaGreatQC7
namespace Go.Proofs.YteabdojjllfcpaaGreat
open Go.RowKit
theorem val_take_succ (cs : List Int) (k : Nat) (h : k < cs.length) : val (cs.take (k + 1)) = val (cs.take k) * 256 + cs[k] := by
  rw [List.take_succ_eq_append_getElem h, val_snoc]
theorem val_small (cs : List Int) (hB : Bs cs) (h : cs.length ≤ 3) : val cs * 256 ≤ 4294967295 := by
  have h1 := val_bd cs hB
  have h2 : (256 : Nat) ^ cs.length ≤ 256 ^ 3 := Nat.pow_le_pow_right (by omega) h
  have h3 : (256 : Int) ^ cs.length = ((256 ^ cs.length : Nat) : Int) := by simp
  omega
end Go.Proofs.YteabdojjllfcpaaGreat

/-
  The contracts of package wire's copies and of its reader over this seat's program: copyOf, Done, Read, take, spoil, number, Num, End, Bad.
-/
namespace Go.Proofs.YteabdojjllfcpaaGreat
open Go.RowKit
/-- A reader: its two cells at block q hold the slice v, which reads as the bytes bs, and whether it is bad. -/
def Rd (w : World) (q : Nat) (v : Value) (bad : Bool) (bs : List Int) : Prop :=
  w.heap[q]? = some (.cells #[v, .bool bad] 182 (0, 0)) ∧ Sl w v bs ∧ v.ownBlock ≠ some q
theorem cell_of_two {w : World} {b : Nat} {v u : Value} {t : TypeId} (h : w.heap[b]? = some (.cells #[v, u] t (0, 0))) : w.cell? ⟨b, 0, none⟩ = some v ∧ w.cell? ⟨b, 1, none⟩ = some u :=
  ⟨by rw [cell_of_row w b 0 _ t _ h]; rfl, by rw [cell_of_row w b 1 _ t _ h]; rfl⟩
theorem free_of_two {w : World} {b : Nat} {c : Array Value} {t : TypeId} (h : w.heap[b]? = some (.cells c t (0, 0))) (j : Nat) : w.frozen? ⟨b, j, none⟩ = false := by
  simp [World.frozen?, h]
theorem two_setCell0 {w : World} {b : Nat} {v u x : Value} {t : TypeId} (h : w.heap[b]? = some (.cells #[v, u] t (0, 0))) : (w.setCell ⟨b, 0, none⟩ x).heap[b]? = some (.cells #[x, u] t (0, 0)) := by
  have hlt := lt_of_block h
  have h' : w.heap[b] = .cells #[v, u] t (0, 0) := by simpa [Array.getElem?_eq_getElem hlt] using h
  show (w.heap.modify b _)[b]? = _
  rw [Array.getElem?_eq_getElem (by simpa using hlt), Array.getElem_modify_self, h']
  rfl
theorem two_setCell1 {w : World} {b : Nat} {v u x : Value} {t : TypeId} (h : w.heap[b]? = some (.cells #[v, u] t (0, 0))) : (w.setCell ⟨b, 1, none⟩ x).heap[b]? = some (.cells #[v, x] t (0, 0)) := by
  have hlt := lt_of_block h
  have h' : w.heap[b] = .cells #[v, u] t (0, 0) := by simpa [Array.getElem?_eq_getElem hlt] using h
  show (w.heap.modify b _)[b]? = _
  rw [Array.getElem?_eq_getElem (by simpa using hlt), Array.getElem_modify_self, h']
  rfl
theorem Rd.kept {w w' : World} {q : Nat} {v : Value} {bad : Bool} {bs : List Int} {S : List Nat} (h : Rd w q v bad bs) (k : Kp S w w') (hp : q ∉ S) (hv : ∀ i, v.ownBlock = some i → i ∉ S) : Rd w' q v bad bs :=
  ⟨k.heap h.1 hp, h.2.1.kept k hv, h.2.2⟩
theorem copy_any (v : Value) (bs : List Int) (w : World) (h : Sl w v bs) (hb : bs.length ≤ 140737488355328) :
    Calls Tryz.prog 110 #[v] w fun e w' => ∃ ao c, e = .returned (.slice ao bs.length c) ∧ w'.ownsRow w.heap.size 5 1 (.slice ao bs.length c) bs.length (bs.map (Value.int .u8)) ∧ Kp [] w w' := by
  obtain ⟨i0, hi0, hz0, hz1, hz2⟩ := info_parts Tryz.info5
  obtain ⟨ao, c, rfl, h1, h2, h3, h4⟩ := h
  cases ao with
  | none =>
    have : bs = [] := List.eq_nil_of_length_eq_zero (by have := h3 rfl; omega)
    subst this
    obtain rfl := h3 rfl
    go_enter Tryz.func110, Tryz.ntmps110
    go_wp2_with (at_builtin; refine wpList_append_own_none rfl _ _ 28 rfl w.heap.size 5 i0 1 Tryz.underlying28 hi0 (.slice none 0 0) 0 [] rfl (World.ownsRow_nil _ _ _ _) rfl ?_)
    go_ret
    exact ⟨_, _, rfl, World.ownsRow_nil _ _ _ _, Kp.refl _ _⟩
  | some a =>
    go_enter Tryz.func110, Tryz.ntmps110
    go_wp2_with (at_builtin; refine wpList_append_own _ rfl _ _ 28 rfl w.heap.size 5 i0 (.int .u8 0) 1 1 Tryz.underlying28 hi0 hz0 hz1 hz2 rfl (by decide) (.slice none 0 0) 0 [] rfl (World.ownsRow_nil _ _ _ _) a bs.length c (bs.map (Value.int .u8)) rfl (by simp) (h4 a rfl) (by simp [Value.oneCell']) (by omega) (by omega) (Nat.le_refl _) ?_; intro v' w1 hown hgrow _)
    go_ret
    have hown' : w1.ownsRow w.heap.size 5 1 v' bs.length (bs.map (Value.int .u8)) := by simpa using hown
    obtain ⟨ao, c', rfl⟩ := owns_shape hown'
    exact ⟨ao, c', rfl, hown', (Kp.refl [] w).grown hgrow (fun k hk => by cases hk)⟩
theorem done_any (p : Nat) (v : Value) (bs : List Int) (w : World) (h : Wr w p v bs) (hb : bs.length ≤ 140737488355328) :
    Calls Tryz.prog 119 #[.pointer (some ⟨p, 0, none⟩)] w fun e w' => ∃ ao c, e = .returned (.slice ao bs.length c) ∧ w'.ownsRow w.heap.size 5 1 (.slice ao bs.length c) bs.length (bs.map (Value.int .u8)) ∧ Kp [] w w' := by
  have hc := h.cell
  have hs := Sl.of_owns h.2
  go_enter Tryz.func119, Tryz.ntmps119
  go_wp2_with (go_at_call 110; refine (copy_any v bs _ hs hb).mono ?_; rintro e w' ⟨ao, c, rfl, h1, h2⟩)
  go_ret
  exact ⟨ao, c, rfl, h1, h2⟩
theorem read_any (v : Value) (bs : List Int) (w : World) (h : Sl w v bs) (hb : bs.length ≤ 140737488355328) :
    Calls Tryz.prog 88 #[v] w fun e w' => ∃ q v', e = .returned (.pointer (some ⟨q, 0, none⟩)) ∧ w.heap.size ≤ q ∧ Rd w' q v' false bs ∧ (∀ k, v'.ownBlock = some k → w.heap.size ≤ k ∧ k < w'.heap.size) ∧ Kp [] w w' := by
  go_enter Tryz.func88, Tryz.ntmps88
  go_wp2_with (go_at_call 110; refine (copy_any v bs _ h hb).mono ?_; rintro e w' ⟨ao, c, rfl, h1, h2⟩)
  go_ret
  have hlt := h1.lt
  exact ⟨w'.heap.size, _, rfl, h2.size, ⟨heap_alloc_new w' _, (Sl.of_owns h1).kept ((Kp.refl [] w').alloc _) (by simp), fun e => by have := (hlt _ e).2; omega⟩, fun k hk => ⟨(hlt k hk).1, by have := (hlt k hk).2; simp; omega⟩, h2.alloc _⟩
theorem spoil_any (q : Nat) (v : Value) (bad : Bool) (bs : List Int) (w : World) (h : Rd w q v bad bs) :
    Calls Tryz.prog 112 #[.pointer (some ⟨q, 0, none⟩)] w fun e w' => e = .returned (.tuple #[]) ∧ Rd w' q (.slice none 0 0) true [] ∧ Kp [q] w w' := by
  have hc := cell_of_two h.1
  have hc0 := hc.1
  have hc1 := hc.2
  have hf := free_of_two h.1
  have hf0 := hf 0
  have hf1 := hf 1
  clear hc hf
  go_enter Tryz.func112, Tryz.ntmps112
  go_wp2
  go_end0
  refine ⟨rfl, ⟨two_setCell1 (two_setCell0 h.1), Sl.nil _, by simp [Value.ownBlock]⟩, ((Kp.refl [q] w).setCell (p := ⟨q, 0, none⟩) (.inl (by simp)) _).setCell (p := ⟨q, 1, none⟩) (.inl (by simp)) _⟩
/-- what take leaves of a reader where there is enough: the piece r, and the rest. -/
def Took (w : World) (q n : Nat) (v : Value) (bad : Bool) (bs : List Int) (r : Value) (w' : World) : Prop :=
  Sl w' r (bs.take n) ∧ (∃ v2, Rd w' q v2 bad (bs.drop n) ∧ ∀ k, v2.ownBlock = some k → v.ownBlock = some k) ∧ Kp [q] w w' ∧ ∀ k, r.ownBlock = some k → v.ownBlock = some k
theorem take_end {w : World} {q : Nat} {ao : Option Addr} {c : Nat} {bad : Bool} {bs : List Int} {n : Nat} (h : Rd w q (.slice ao bs.length c) bad bs) (hn : n ≤ bs.length) (x : Option Addr) (l cc : Nat)
    (hx : x = if c = n then ao else ao.map (·.add n)) (hl : l = bs.length - n) (hcc : cc = c - n) : Took w q n (.slice ao bs.length c) bad bs (.slice ao n c) (w.setCell ⟨q, 0, none⟩ (.slice x l cc)) := by
  subst hl hcc hx
  have hk : Kp [q] w (w.setCell ⟨q, 0, none⟩ (.slice (if c = n then ao else ao.map (·.add n)) (bs.length - n) (c - n))) := (Kp.refl [q] w).setCell (p := ⟨q, 0, none⟩) (.inl (by simp)) _
  have ho : ∀ k, (Value.slice (if c = n then ao else ao.map (·.add n)) (bs.length - n) (c - n)).ownBlock = some k → (Value.slice ao bs.length c).ownBlock = some k := by
    intro k
    split
    · cases ao with
      | none => exact id
      | some a => exact id
    · cases ao with
      | none => exact id
      | some a => simp [Value.ownBlock, add_block]
  have hq : ∀ k, (Value.slice ao bs.length c).ownBlock = some k → k ∉ [q] := fun k hk1 hm => by
    simp only [List.mem_singleton] at hm; subst hm; exact h.2.2 hk1
  have hao : ∀ k, (Value.slice ao n c).ownBlock = some k → (Value.slice ao bs.length c).ownBlock = some k := fun k hk1 => by
    cases ao with
    | none => cases hk1
    | some a => exact hk1
  exact ⟨(h.2.1.take n hn).kept hk (fun k hk => hq k (hao k hk)), ⟨_, ⟨two_setCell0 h.1, (h.2.1.drop n hn).kept hk (fun k hk => hq k (ho k hk)), fun e => hq q (ho q e) (by simp)⟩, ho⟩, hk, hao⟩
set_option maxHeartbeats 400000 in
theorem take_ok (q : Nat) (v : Value) (bad : Bool) (bs : List Int) (n : Nat) (w : World) (hR : Rd w q v bad bs) (hn : n ≤ bs.length) :
    Calls Tryz.prog 113 #[.pointer (some ⟨q, 0, none⟩), .int .i64 n] w fun e w' => ∃ ao c, e = .returned (.slice ao n c) ∧ Took w q n v bad bs (.slice ao n c) w' := by
  obtain ⟨ao, c, rfl, h1, h2, h3, h4⟩ := hR.2.1
  have hc0 := (cell_of_two hR.1).1
  have hf0 := free_of_two hR.1 0
  have hlt : ¬ (n : Int) < 0 := by omega
  have hle : (n : Int) ≤ (bs.length : Int) := by omega
  have hle2 : (n : Int) ≤ (c : Int) := by omega
  unfold maxLen at h2
  clear h4 h3
  by_cases hcn : c = n
  · subst hcn
    go_enter Tryz.func113, Tryz.ntmps113
    go_wp2
    go_ret
    refine ⟨_, _, rfl, take_end hR hn _ _ _ ?_ ?_ ?_⟩
    · simp
    · omega
    · omega
  · go_enter Tryz.func113, Tryz.ntmps113
    go_wp2
    go_ret
    refine ⟨_, _, rfl, take_end hR hn _ _ _ ?_ ?_ ?_⟩
    · simp [hcn]
    · rfl
    · rfl
theorem take_bad (q : Nat) (v : Value) (bad : Bool) (bs : List Int) (n : Int) (w : World) (h : Rd w q v bad bs) (hn : n < 0 ∨ (bs.length : Int) < n) :
    Calls Tryz.prog 113 #[.pointer (some ⟨q, 0, none⟩), .int .i64 n] w fun e w' => e = .returned (.slice none 0 0) ∧ Rd w' q (.slice none 0 0) true [] ∧ Kp [q] w w' := by
  have h0 := h
  obtain ⟨ao, c, rfl, h1, h2, h3, h4⟩ := h.2.1
  have hc0 := (cell_of_two h.1).1
  clear h4 h3 h
  rcases Int.lt_or_le n 0 with hlt | hlt
  · go_enter Tryz.func113, Tryz.ntmps113
    go_wp2_with (go_at_call 112; refine (spoil_any q _ bad bs _ h0).mono ?_; rintro e w' ⟨rfl, k1, k2⟩)
    go_ret
    exact ⟨rfl, k1, k2⟩
  · have hgt : (bs.length : Int) < n := by omega
    go_enter Tryz.func113, Tryz.ntmps113
    go_wp2_with (go_at_call 112; refine (spoil_any q _ bad bs _ h0).mono ?_; rintro e w' ⟨rfl, k1, k2⟩)
    go_ret
    exact ⟨rfl, k1, k2⟩
theorem Sl.at2 {w : World} {ao : Option Addr} {n c : Nat} {bs : List Int} (h : Sl w (.slice ao n c) bs) (h0 : 0 < n) :
    ∃ b off, ao = some ⟨b, off, none⟩ ∧ n = bs.length ∧ ∀ k (hk : k < bs.length), w.cell? ⟨b, off + k, none⟩ = some (.int .u8 bs[k]) := by
  obtain ⟨ao', c', he, h1, h2, h3, h4⟩ := h
  injection he with e1 e2 e3
  subst e1 e2 e3
  cases ao with
  | none => have := h3 rfl; omega
  | some a =>
    obtain ⟨b, off, spot⟩ := a
    have hc := h4 _ rfl 0 (.int .u8 bs[0]) (by simp [List.getElem?_eq_getElem h0])
    have hspot : spot = none := by simpa [Addr.add] using World.cell?_spot hc
    subst hspot
    refine ⟨b, off, rfl, rfl, fun k hk => ?_⟩
    have := h4 _ rfl k (.int .u8 bs[k]) (by simp [List.getElem?_eq_getElem hk])
    rwa [Addr.add_lit] at this
theorem Bs.append {bs cs : List Int} (h : Bs bs) (k : Bs cs) : Bs (bs ++ cs) := fun b hb => by
  rcases List.mem_append.1 hb with h1 | h1
  · exact h b h1
  · exact k b h1
set_option maxHeartbeats 400000 in
theorem rnumber_ok (q : Nat) (v : Value) (bad : Bool) (bs : List Int) (n : Nat) (w : World) (hR : Rd w q v bad bs) (hn : n ≤ bs.length) (h0 : 0 < n) (h4 : n ≤ 4) (hB : Bs bs) :
    Calls Tryz.prog 111 #[.pointer (some ⟨q, 0, none⟩), .int .i64 n] w fun e w' => e = .returned (.int .u32 (val (bs.take n))) ∧ ∃ r, Took w q n v bad bs r w' := by
  go_enter Tryz.func111, Tryz.ntmps111
  go_wp2_with (go_at_call 113; refine (take_ok q v bad bs n _ hR hn).mono ?_; rintro e w1 ⟨ao, c, rfl, hT⟩)
  obtain ⟨b, off, rfl, hl, hcell⟩ := hT.1.at2 h0
  obtain ⟨cs, hcs⟩ : ∃ cs, cs = bs.take n := ⟨_, rfl⟩
  have hBc : Bs cs := hcs ▸ hB.take n
  rw [← hcs] at hl hcell
  have HC : Hid (cs = bs.take n) := hcs
  have HT : Hid (∃ r, Took w q n v bad bs r w1) := ⟨_, hT⟩
  clear hcs hT hB hR hn
  subst hl
  go_loop [5, 12] (fun x i => ∃ k : Nat, k ≤ cs.length ∧ i = .int .i64 k ∧ x = .int .u32 (val (cs.take k))) (fun _ i => cs.length - (intOf i).toNat)
  case atStart => exact ⟨0, Nat.zero_le _, rfl, rfl⟩
  case round =>
    obtain ⟨k, hk, rfl, rfl⟩ := hrel
    by_cases hlt : k < cs.length
    · have hc := hcell k hlt
      have hb1 := hBc cs[k] (List.getElem_mem hlt)
      have hvb := val_bd (cs.take k) (hBc.take k)
      have hlen : (cs.take k).length ≤ 3 := by simp; omega
      have hv1 := val_small (cs.take k) (hBc.take k) hlen
      obtain ⟨x, hx⟩ : ∃ x, x = val (cs.take k) := ⟨_, rfl⟩
      obtain ⟨y, hy⟩ : ∃ y, y = cs[k] := ⟨_, rfl⟩
      have HX : Hid (val (cs.take (k + 1)) = x * 256 + y) := by rw [hx, hy]; exact val_take_succ cs k hlt
      rw [← hx] at hvb hv1
      rw [← hx]
      rw [← hy] at hc hb1
      obtain ⟨hb1, hb2⟩ := hb1
      obtain ⟨hx0, _⟩ := hvb
      have hor := bits_or_byte x y hx0 hv1 hb1 hb2
      clear hx hy hlen hBc hcell
      go_wp2
      go_round
      case rel => exact ⟨k + 1, by omega, by go_num, by rw [HX.out]⟩
      case measure => simp [intOf]; omega
    · obtain rfl : k = cs.length := by omega
      go_wp2
      go_ret
      exact ⟨congrArg (fun l => Ending.returned (.int .u32 (val l))) HC.out, HT.out⟩
set_option maxHeartbeats 400000 in
theorem rnumber_bad (q : Nat) (v : Value) (bad : Bool) (bs : List Int) (n : Nat) (w : World) (hR : Rd w q v bad bs) (hn : bs.length < n) :
    Calls Tryz.prog 111 #[.pointer (some ⟨q, 0, none⟩), .int .i64 n] w fun e w' => e = .returned (.int .u32 0) ∧ Rd w' q (.slice none 0 0) true [] ∧ Kp [q] w w' := by
  go_enter Tryz.func111, Tryz.ntmps111
  go_wp2_with (go_at_call 113; refine (take_bad q v bad bs n _ hR (by omega)).mono ?_; rintro e w1 ⟨rfl, h1, h2⟩)
  refine wp_loop_rounds 1 ?_
  rw [rounds_succ]
  go_wp2
  go_ret
  exact ⟨rfl, h1, h2⟩
theorem rnum_ok (q : Nat) (v : Value) (bad : Bool) (bs : List Int) (w : World) (hR : Rd w q v bad bs) (hn : 4 ≤ bs.length) (hB : Bs bs) :
    Calls Tryz.prog 91 #[.pointer (some ⟨q, 0, none⟩)] w fun e w' => e = .returned (.int .u32 (val (bs.take 4))) ∧ ∃ r, Took w q 4 v bad bs r w' := by
  go_enter Tryz.func91, Tryz.ntmps91
  go_wp2_with (go_at_call 111; refine (rnumber_ok q v bad bs 4 _ hR hn (by omega) (by omega) hB).mono ?_; rintro e w1 ⟨rfl, h1⟩)
  go_ret
  exact ⟨rfl, h1⟩
end Go.Proofs.YteabdojjllfcpaaGreat

/-
  The contracts of package wire's Raw and Bytes of a writer over this seat's program.
-/
namespace Go.Proofs.YteabdojjllfcpaaGreat
open Go.RowKit
theorem wr_step' {wr w0 w1 : World} {p : Nat} {v v' : Value} {bs new : List Int} (h : Wr wr p v bs) (h0 : Kp [] wr w0)
    (hown : w1.ownsRow (p + 1) 5 1 v' (bs.length + new.length) (bs.map (Value.int .u8) ++ new.map (Value.int .u8)))
    (hgrow : w0.grownBy w1 v.ownBlock) (hat : ∀ k, v'.ownBlock = some k → v.ownBlock = some k ∨ wr.heap.size ≤ k) :
    Wr (w1.setCell ⟨p, 0, none⟩ v') p v' (bs ++ new) ∧ Step p wr v (w1.setCell ⟨p, 0, none⟩ v') v' := by
  have h1 : w1.heap[p]? = some (.cells #[v] 192 (0, 0)) := by
    rw [hgrow.block p (Nat.lt_of_lt_of_le h.lt h0.size) (Ne.symm h.ne)]
    exact h0.heap h.1 (by simp)
  refine ⟨⟨one_setCell h1, ?_⟩, ?_, hat⟩
  · have := ownsRow_setCell_below hown (a := ⟨p, 0, none⟩) (by simp) v'
    simpa using this
  · have k1 : Kp (p :: v.ownBlock.toList) wr w0 := h0.mono (by simp)
    have k2 := k1.grown hgrow (fun k hk => .inl (by simp [hk]))
    exact k2.setCell (p := ⟨p, 0, none⟩) (.inl (by simp)) _
theorem wr_same {w : World} {p : Nat} {v : Value} {bs : List Int} (h : Wr w p v bs) : Wr (w.setCell ⟨p, 0, none⟩ v) p v bs ∧ Step p w v (w.setCell ⟨p, 0, none⟩ v) v :=
  ⟨⟨one_setCell h.1, ownsRow_setCell_below h.2 (a := ⟨p, 0, none⟩) (by simp) v⟩, (Kp.refl _ w).setCell (p := ⟨p, 0, none⟩) (.inl (by simp)) _, fun _ hk => .inl hk⟩
set_option maxHeartbeats 400000 in
theorem raw_any (p : Nat) (v : Value) (bs : List Int) (vb : Value) (cs : List Int) (w : World) (hw : Wr w p v bs) (hs : Sl w vb cs) (hb : bs.length + cs.length ≤ 140737488355328) :
    Calls Tryz.prog 118 #[.pointer (some ⟨p, 0, none⟩), vb] w fun e w' => e = .returned (.tuple #[]) ∧ ∃ v', Wr w' p v' (bs ++ cs) ∧ Step p w v w' v' := by
  obtain ⟨i0, hi0, hz0, hz1, hz2⟩ := info_parts Tryz.info5
  obtain ⟨ao, c, rfl, h1, h2, h3, h4⟩ := hs
  obtain ⟨av, cv, rfl⟩ := owns_shape hw.2
  have hc := hw.cell
  have hf := hw.free
  have hown := hw.2
  have hne := hw.ne
  have hlt := hw.lt
  cases ao with
  | none =>
    have : cs = [] := List.eq_nil_of_length_eq_zero (by have := h3 rfl; omega)
    subst this
    obtain rfl := h3 rfl
    have R := wr_same hw
    go_enter Tryz.func118, Tryz.ntmps118
    go_wp2_with (at_builtin; refine wpList_append_own_none rfl _ _ 28 rfl (p + 1) 5 i0 1 Tryz.underlying28 hi0 _ _ _ rfl hown rfl ?_)
    go_end0
    exact ⟨rfl, _, by simpa using R.1, R.2⟩
  | some a =>
    go_enter Tryz.func118, Tryz.ntmps118
    go_wp2_with (at_builtin; (refine wpList_append_own_at _ rfl _ _ 28 rfl (p + 1) 5 i0 (.int .u8 0) 1 1 Tryz.underlying28 hi0 hz0 hz1 hz2 rfl (by decide) (.slice av bs.length cv) bs.length (bs.map (Value.int .u8)) rfl hown a cs.length c (cs.map (Value.int .u8)) rfl (by simp) (h4 a rfl) (by simp [Value.oneCell']) (by unfold maxLen; omega) (by omega) (by omega) ?_; intro v' w1 hown1 hgrow _ hat; obtain ⟨av', cv', rfl⟩ := owns_shape hown1; have hc1 : w1.cell? ⟨p, 0, none⟩ = some (.slice av bs.length cv) := (by rw [hgrow.cell_far _ hlt (Ne.symm hne)]; exact hc); have hf1 : w1.frozen? ⟨p, 0, none⟩ = false := (by rw [hgrow.frozen_far _ hlt (Ne.symm hne)]; exact hf)))
    have R := wr_step' (new := cs) hw (Kp.refl [] w) hown1 hgrow (fun k hk => by rcases hat with e | e; exact .inl (e ▸ hk); exact .inr (by rw [e] at hk; cases hk; exact Nat.le_refl _))
    go_end0
    exact ⟨rfl, _, R.1, R.2⟩
end Go.Proofs.YteabdojjllfcpaaGreat

/-
  The contracts of package wire's reader for every call, by one plain function of what is left: Raw, Byte, Num, Bytes, Left; and of the helpers Cut and Within.
-/
namespace Go.Proofs.YteabdojjllfcpaaGreat
open Go.RowKit
/-- n bytes off the bytes bs: what is told, whether it is bad now, what is left. -/
def tk (bad : Bool) (bs : List Int) (n : Int) : List Int × Bool × List Int :=
  if 0 ≤ n ∧ n ≤ (bs.length : Int) then (bs.take n.toNat, bad, bs.drop n.toNat) else ([], true, [])
/-- a text behind its length. -/
def tkb (bad : Bool) (bs : List Int) (most : Int) : List Int × Bool × List Int :=
  if max most 0 < val (tk bad bs 2).1 then ([], true, []) else tk (tk bad bs 2).2.1 (tk bad bs 2).2.2 (val (tk bad bs 2).1)
theorem tk_ok (bad : Bool) (bs : List Int) (n : Nat) (h : n ≤ bs.length) : tk bad bs n = (bs.take n, bad, bs.drop n) := by
  unfold tk; rw [if_pos (by omega)]; simp
theorem tk_no (bad : Bool) (bs : List Int) (n : Int) (h : n < 0 ∨ (bs.length : Int) < n) : tk bad bs n = ([], true, []) := by
  unfold tk; rw [if_neg (by omega)]
theorem tk_bs1 {bad : Bool} {bs : List Int} {n : Int} (h : Bs bs) : Bs (tk bad bs n).1 := by
  unfold tk; split
  · exact h.take _
  · intro b hb; cases hb
theorem tk_bs2 {bad : Bool} {bs : List Int} {n : Int} (h : Bs bs) : Bs (tk bad bs n).2.2 := by
  unfold tk; split
  · exact h.drop _
  · intro b hb; cases hb
theorem tk_len {bad : Bool} {bs : List Int} {n : Int} : (tk bad bs n).1.length + (tk bad bs n).2.2.length ≤ bs.length := by
  unfold tk; split
  · simp; omega
  · simp
theorem tk_len1 {bad : Bool} {bs : List Int} {n : Nat} : (tk bad bs n).1.length ≤ n := by
  unfold tk; split
  · simp; omega
  · simp
theorem tkb_bs2 {bad : Bool} {bs : List Int} {n : Int} (h : Bs bs) : Bs (tkb bad bs n).2.2 := by
  unfold tkb; split
  · intro b hb; cases hb
  · exact tk_bs2 (tk_bs2 h)
theorem tkb_bs1 {bad : Bool} {bs : List Int} {n : Int} (h : Bs bs) : Bs (tkb bad bs n).1 := by
  unfold tkb; split
  · intro b hb; cases hb
  · exact tk_bs1 (tk_bs2 h)
theorem tkb_len {bad : Bool} {bs : List Int} {n : Int} : (tkb bad bs n).1.length + (tkb bad bs n).2.2.length ≤ bs.length := by
  unfold tkb; split
  · simp
  · have h1 := @tk_len bad bs 2
    have h2 := @tk_len (tk bad bs 2).2.1 (tk bad bs 2).2.2 (val (tk bad bs 2).1)
    omega
/-- what a call of a reader leaves: the state s, besides its two cells nothing old changed. -/
def Left (w : World) (q : Nat) (v : Value) (s : Bool × List Int) (w' : World) : Prop :=
  (∃ v2, Rd w' q v2 s.1 s.2 ∧ ∀ k, v2.ownBlock = some k → v.ownBlock = some k) ∧ Kp [q] w w'
theorem Left.trans {a b c : World} {q : Nat} {v : Value} {s t : Bool × List Int} (h : Left a q v s b) (k : ∀ v2, Rd b q v2 s.1 s.2 → Left b q v2 t c) : Left a q v t c := by
  obtain ⟨⟨v2, r2, o2⟩, k2⟩ := h
  obtain ⟨⟨v3, r3, o3⟩, k3⟩ := k v2 r2
  exact ⟨⟨v3, r3, fun i hi => o2 i (o3 i hi)⟩, k2.trans k3⟩
theorem Took.left {w w' : World} {q n : Nat} {v : Value} {bad : Bool} {bs : List Int} {r : Value} (h : Took w q n v bad bs r w') : Left w q v (bad, bs.drop n) w' := ⟨h.2.1, h.2.2.1⟩
theorem Left.bad {w w' : World} {q : Nat} {v : Value} (h : Rd w' q (.slice none 0 0) true []) (k : Kp [q] w w') : Left w q v (true, []) w' := ⟨⟨_, h, fun _ hk => by cases hk⟩, k⟩
theorem rnumber_any (q : Nat) (v : Value) (bad : Bool) (bs : List Int) (n : Nat) (w : World) (hR : Rd w q v bad bs) (h0 : 0 < n) (h4 : n ≤ 4) (hB : Bs bs) :
    Calls Tryz.prog 111 #[.pointer (some ⟨q, 0, none⟩), .int .i64 n] w fun e w' => e = .returned (.int .u32 (val (tk bad bs n).1)) ∧ Left w q v (tk bad bs n).2 w' := by
  rcases Nat.lt_or_ge bs.length n with h | h
  · rw [tk_no bad bs n (.inr (by omega))]
    exact (rnumber_bad q v bad bs n w hR h).mono fun _ _ ⟨h1, h2, h3⟩ => ⟨h1, Left.bad h2 h3⟩
  · rw [tk_ok bad bs n h]
    exact (rnumber_ok q v bad bs n w hR h h0 h4 hB).mono fun _ _ ⟨h1, r, h2⟩ => ⟨h1, h2.left⟩
theorem rnum_any (q : Nat) (v : Value) (bad : Bool) (bs : List Int) (w : World) (hR : Rd w q v bad bs) (hB : Bs bs) :
    Calls Tryz.prog 91 #[.pointer (some ⟨q, 0, none⟩)] w fun e w' => e = .returned (.int .u32 (val (tk bad bs 4).1)) ∧ Left w q v (tk bad bs 4).2 w' := by
  go_enter Tryz.func91, Tryz.ntmps91
  go_wp2_with (go_at_call 111; refine (rnumber_any q v bad bs 4 _ hR (by omega) (by omega) hB).mono ?_; rintro e w1 ⟨rfl, h1⟩)
  go_ret
  exact ⟨rfl, h1⟩
theorem val_one (cs : List Int) (h : Bs cs) (hl : cs.length ≤ 1) : IntKind.u8.wrap (val cs) = val cs := by
  have h1 := val_bd cs h
  have : cs.length = 0 ∨ cs.length = 1 := by omega
  have h2 : 0 ≤ val cs ∧ val cs ≤ 255 := by rcases this with e | e <;> rw [e] at h1 <;> omega
  simp [IntKind.wrap, IntKind.signed, IntKind.bits]
  omega
/-- a slice r of the call's own that reads as bs. -/
def Own (w w' : World) (r : Value) (bs : List Int) : Prop := Sl w' r bs ∧ ∀ k, r.ownBlock = some k → w.heap.size ≤ k
theorem raw_ok (q : Nat) (v : Value) (bad : Bool) (bs : List Int) (n : Int) (w : World) (hR : Rd w q v bad bs) (hb : bs.length ≤ 140737488355328) :
    Calls Tryz.prog 92 #[.pointer (some ⟨q, 0, none⟩), .int .i64 n] w fun e w' => ∃ ao c, e = .returned (.slice ao (tk bad bs n).1.length c) ∧ Own w w' (.slice ao (tk bad bs n).1.length c) (tk bad bs n).1 ∧ Left w q v (tk bad bs n).2 w' := by
  by_cases hn : 0 ≤ n ∧ n ≤ (bs.length : Int)
  · obtain ⟨m, rfl⟩ := Int.eq_ofNat_of_zero_le hn.1
    have hm : m ≤ bs.length := by omega
    rw [tk_ok bad bs m hm]
    have hl : (bs.take m).length = m := by simp; omega
    obtain ⟨cs, hcs⟩ : ∃ cs, cs = bs.take m := ⟨_, rfl⟩
    simp only
    rw [← hcs] at hl ⊢
    have HC : Hid (cs = bs.take m) := hcs
    clear hcs hn
    subst hl
    go_enter Tryz.func92, Tryz.ntmps92
    go_wp2_with fail
    refine (take_ok q v bad bs cs.length _ hR hm).mono ?_
    rintro e w1 ⟨ao, c, rfl, hT⟩
    have hS : Sl w1 (.slice ao cs.length c) cs := by have := hT.1; rwa [← HC.out] at this
    have hL := hT.left
    clear hT
    go_wp2_with fail
    refine (copy_any _ cs _ hS (by omega)).mono ?_
    rintro e w2 ⟨ao2, c2, rfl, h1, h2⟩
    go_wp2_with fail
    go_ret
    refine ⟨ao2, c2, rfl, ⟨Sl.of_owns h1, fun k hk => Nat.le_trans hL.2.size (h1.lt k hk).1⟩, ?_⟩
    obtain ⟨⟨v2, r2, o2⟩, k2⟩ := hL
    exact ⟨⟨v2, r2.kept h2 (by simp) (by simp), o2⟩, k2.trans (h2.mono (by simp))⟩
  · have hn' : n < 0 ∨ (bs.length : Int) < n := by omega
    rw [tk_no bad bs n hn']
    go_enter Tryz.func92, Tryz.ntmps92
    go_wp2_with fail
    refine (take_bad q v bad bs n _ hR hn').mono ?_
    rintro e w1 ⟨rfl, h1, h2⟩
    go_wp2_with fail
    refine (copy_any _ [] _ (Sl.nil w1) (by simp)).mono ?_
    rintro e w2 ⟨ao2, c2, rfl, h3, h4⟩
    go_wp2_with fail
    go_ret
    exact ⟨ao2, c2, rfl, ⟨Sl.of_owns h3, fun k hk => Nat.le_trans h2.size (h3.lt k hk).1⟩, Left.bad (h1.kept h4 (by simp) (by simp)) (h2.trans (h4.mono (by simp)))⟩
end Go.Proofs.YteabdojjllfcpaaGreat

/-
  Chapter 9 as plain functions: which names and manifests may be, a manifest as bytes, bytes as a manifest; that what is written is read, that what is read is written so, that what is cut off or has more behind it is none.
-/
namespace Go.Proofs.YteabdojjllfcpaaGreat
open Go.RowKit
/-- A manifest: its name, version, firmware and notes. -/
structure Mf where
  s : ByteArray
  v : Int
  f : List Int
  n : List Int
def mf0 : Mf := ⟨⟨#[]⟩, 0, [], []⟩
/-- A manifest of plain data. -/
structure Mf.ok (m : Mf) : Prop where
  v0 : 0 ≤ m.v
  v1 : m.v ≤ 4294967295
  f : Bs m.f
  n : Bs m.n
theorem mf0_ok : mf0.ok := ⟨by decide, by decide, (fun _ hb => nomatch hb), (fun _ hb => nomatch hb)⟩
def lowP (ns : List Int) : Bool := ns.all fun b => decide (97 ≤ b) && decide (b ≤ 122)
def nameP (ns : List Int) : Bool := decide (1 ≤ ns.length) && decide (ns.length ≤ 20) && lowP ns
def rgtM (m : Mf) : Bool := nameP (nums m.s) && decide (0 < m.v) && decide (m.f.length = 32) && decide (m.n.length ≤ 64)
def be2 (n : Int) : List Int := [n / 256 % 256, n % 256]
def encM (m : Mf) : List Int := [77] ++ (be2 (nums m.s).length ++ nums m.s) ++ be4 m.v ++ m.f ++ (be2 m.n.length ++ m.n)
def d1 (B : List Int) := tk false B 1
def d2 (B : List Int) := tkb (d1 B).2.1 (d1 B).2.2 20
def d3 (B : List Int) := tk (d2 B).2.1 (d2 B).2.2 4
def d4 (B : List Int) := tk (d3 B).2.1 (d3 B).2.2 32
def d5 (B : List Int) := tkb (d4 B).2.1 (d4 B).2.2 64
theorem d1_eq (B : List Int) : d1 B = tk false B 1 := by unfold d1; rfl
theorem d2_eq (B : List Int) : d2 B = tkb (d1 B).2.1 (d1 B).2.2 20 := by unfold d2; rfl
theorem d3_eq (B : List Int) : d3 B = tk (d2 B).2.1 (d2 B).2.2 4 := by unfold d3; rfl
theorem d4_eq (B : List Int) : d4 B = tk (d3 B).2.1 (d3 B).2.2 32 := by unfold d4; rfl
theorem d5_eq (B : List Int) : d5 B = tkb (d4 B).2.1 (d4 B).2.2 64 := by unfold d5; rfl
def decM (B : List Int) : Mf := ⟨strOfNums (d2 B).1, val (d3 B).1, (d4 B).1, (d5 B).1⟩
def endM (B : List Int) : Bool := !(d5 B).2.1 && (d5 B).2.2.isEmpty
def okM (B : List Int) : Bool := decide (val (d1 B).1 = 77) && endM B && rgtM (decM B)
/-- the error beside an answer. -/
def errOf (b : Bool) : Int := if b then 0 else 12
theorem errOf_t : errOf true = 0 := rfl
theorem errOf_f : errOf false = 12 := rfl
/-- what Decode tells. -/
def ansM (B : List Int) : Mf := if okM B then decM B else mf0
theorem rgtM_iff (m : Mf) : rgtM m = true ↔ (nameP (nums m.s) = true ∧ 0 < m.v ∧ m.f.length = 32 ∧ m.n.length ≤ 64) := by
  unfold rgtM
  simp only [Bool.and_eq_true, decide_eq_true_eq]
  constructor
  · rintro ⟨⟨⟨a, b⟩, c⟩, d⟩; exact ⟨a, b, c, d⟩
  · rintro ⟨a, b, c, d⟩; exact ⟨⟨⟨a, b⟩, c⟩, d⟩
theorem nameP_len {ns : List Int} (h : nameP ns = true) : 1 ≤ ns.length ∧ ns.length ≤ 20 := by
  unfold nameP at h
  simp only [Bool.and_eq_true, decide_eq_true_eq] at h
  exact h.1
theorem okM_iff (B : List Int) : okM B = true ↔ (val (d1 B).1 = 77 ∧ ((d5 B).2.1 = false ∧ (d5 B).2.2 = []) ∧ rgtM (decM B) = true) := by
  unfold okM endM
  simp only [Bool.and_eq_true, decide_eq_true_eq, Bool.not_eq_true', List.isEmpty_iff]
  constructor
  · rintro ⟨⟨a, b⟩, c⟩; exact ⟨a, b, c⟩
  · rintro ⟨a, b, c⟩; exact ⟨⟨a, b⟩, c⟩
/-- a bad reader stays bad. -/
theorem tk_bad {bad : Bool} {bs : List Int} {n : Int} (h : (tk bad bs n).2.1 = false) : bad = false ∧ 0 ≤ n ∧ n ≤ (bs.length : Int) := by
  unfold tk at h
  split at h
  · rename_i hc; exact ⟨h, hc⟩
  · cases h
theorem tkb_bad {bad : Bool} {bs : List Int} {n : Int} (h : (tkb bad bs n).2.1 = false) : bad = false ∧ 2 ≤ bs.length ∧ val (bs.take 2) ≤ max n 0 ∧ tkb bad bs n = tk false (bs.drop 2) (val (bs.take 2)) := by
  have hu : tkb bad bs n = if max n 0 < val (tk bad bs 2).1 then ([], true, []) else tk (tk bad bs 2).2.1 (tk bad bs 2).2.2 (val (tk bad bs 2).1) := rfl
  by_cases hc : max n 0 < val (tk bad bs 2).1
  · rw [hu, if_pos hc] at h; cases h
  · rw [if_neg hc] at hu
    have h1 := tk_bad (by rw [← hu]; exact h)
    have h2 := tk_bad h1.1
    have e := tk_ok bad bs 2 (by omega)
    rw [show ((2 : Nat) : Int) = 2 from rfl] at e
    rw [e] at hu hc
    refine ⟨h2.1, by omega, by simp only at hc; omega, ?_⟩
    rw [hu]
    simp only
    rw [h2.1]
theorem be2_val (n : Nat) (h : n ≤ 65535) : val (be2 n) = n := by
  simp only [val, be2, List.foldl_cons, List.foldl_nil]
  omega
theorem be4_val (n : Int) (h0 : 0 ≤ n) (h1 : n ≤ 4294967295) : val (be4 n) = n := by
  simp only [val, be4, List.foldl_cons, List.foldl_nil]
  omega
theorem val_be2 (cs : List Int) (h : Bs cs) (hl : cs.length = 2) : be2 (val cs) = cs := by
  match cs, hl with
  | [a, b], _ =>
    have ha := h a (by simp)
    have hb := h b (by simp)
    simp only [val, be2, List.foldl_cons, List.foldl_nil, List.cons.injEq, and_true]
    omega
theorem be4_of_val (cs : List Int) (h : Bs cs) (hl : cs.length = 4) : be4 (val cs) = cs := by
  match cs, hl with
  | [a, b, c, d], _ =>
    have ha := h a (by simp)
    have hb := h b (by simp)
    have hc := h c (by simp)
    have hd := h d (by simp)
    simp only [val, be4, List.foldl_cons, List.foldl_nil, List.cons.injEq, and_true]
    omega
/-- what stands ahead is read. -/
theorem tk_front (X Y : List Int) (n : Nat) (h : X.length = n) : tk false (X ++ Y) n = (X, false, Y) := by
  rw [tk_ok false _ n (by rw [List.length_append]; omega)]
  subst h
  simp
theorem tkb_front (X Y : List Int) (most : Nat) (h : X.length ≤ most) (hm : most ≤ 65535) : tkb false ((be2 X.length ++ X) ++ Y) most = (X, false, Y) := by
  unfold tkb
  have e := tk_front (be2 X.length) (X ++ Y) 2 rfl
  rw [show ((2 : Nat) : Int) = 2 from rfl] at e
  rw [List.append_assoc, e]
  simp only
  rw [be2_val _ (by omega), if_neg (by omega)]
  exact tk_front X Y _ rfl
theorem dec_enc_steps (m : Mf) (hr : rgtM m = true) : d1 (encM m) = ([77], false, (be2 (nums m.s).length ++ nums m.s) ++ (be4 m.v ++ (m.f ++ (be2 m.n.length ++ m.n)))) ∧ d2 (encM m) = (nums m.s, false, be4 m.v ++ (m.f ++ (be2 m.n.length ++ m.n))) ∧ d3 (encM m) = (be4 m.v, false, m.f ++ (be2 m.n.length ++ m.n)) ∧ d4 (encM m) = (m.f, false, be2 m.n.length ++ m.n) ∧ d5 (encM m) = (m.n, false, []) := by
  obtain ⟨h1, h2, h3, h4⟩ := (rgtM_iff m).1 hr
  have hn := nameP_len h1
  have e1 : d1 (encM m) = ([77], false, (be2 (nums m.s).length ++ nums m.s) ++ (be4 m.v ++ (m.f ++ (be2 m.n.length ++ m.n)))) := by
    unfold d1 encM
    have := tk_front [77] ((be2 (nums m.s).length ++ nums m.s) ++ (be4 m.v ++ (m.f ++ (be2 m.n.length ++ m.n)))) 1 rfl
    simpa [List.append_assoc] using this
  have e2 : d2 (encM m) = (nums m.s, false, be4 m.v ++ (m.f ++ (be2 m.n.length ++ m.n))) := by
    unfold d2
    rw [e1]
    exact tkb_front _ _ 20 (by omega) (by omega)
  have e3 : d3 (encM m) = (be4 m.v, false, m.f ++ (be2 m.n.length ++ m.n)) := by
    unfold d3
    rw [e2]
    exact tk_front _ _ 4 rfl
  have e4 : d4 (encM m) = (m.f, false, be2 m.n.length ++ m.n) := by
    unfold d4
    rw [e3]
    exact tk_front _ _ 32 h3
  have e5 : d5 (encM m) = (m.n, false, []) := by
    unfold d5
    rw [e4]
    have := tkb_front m.n [] 64 (by omega) (by omega)
    rw [List.append_nil] at this
    exact this
  exact ⟨e1, e2, e3, e4, e5⟩
theorem dec_enc (m : Mf) (hm : m.ok) (hr : rgtM m = true) : decM (encM m) = m ∧ okM (encM m) = true := by
  obtain ⟨e1, e2, e3, e4, e5⟩ := dec_enc_steps m hr
  have e : decM (encM m) = m := by
    unfold decM
    rw [e2, e3, e4, e5]
    simp only
    rw [str_nums, be4_val _ hm.v0 hm.v1]
  refine ⟨e, (okM_iff _).2 ⟨?_, ?_, ?_⟩⟩
  · rw [e1]; rfl
  · rw [e5]; exact ⟨rfl, rfl⟩
  · rw [e]; exact hr
theorem tk_parts {bs : List Int} {n : Int} (h : (tk false bs n).2.1 = false) : bs = (tk false bs n).1 ++ (tk false bs n).2.2 ∧ ((tk false bs n).1.length : Int) = n := by
  obtain ⟨_, h0, h1⟩ := tk_bad h
  obtain ⟨m, rfl⟩ := Int.eq_ofNat_of_zero_le h0
  rw [tk_ok false bs m (by omega)]
  refine ⟨(List.take_append_drop m bs).symm, ?_⟩
  simp only [List.length_take]
  omega
theorem tkb_parts {bs : List Int} {n : Int} (hB : Bs bs) (h : (tkb false bs n).2.1 = false) : bs = (be2 (tkb false bs n).1.length ++ (tkb false bs n).1) ++ (tkb false bs n).2.2 ∧ ((tkb false bs n).1.length : Int) ≤ max n 0 := by
  obtain ⟨_, h2, h3, e⟩ := tkb_bad h
  rw [e] at h ⊢
  have p := tk_parts h
  have hl : (bs.take 2).length = 2 := by rw [List.length_take]; omega
  refine ⟨?_, by rw [p.2]; exact h3⟩
  rw [p.2, val_be2 _ (hB.take 2) hl, List.append_assoc, ← p.1, List.take_append_drop]
theorem ds_bs {B : List Int} (hB : Bs B) : Bs (d1 B).2.2 ∧ Bs (d2 B).2.2 ∧ Bs (d3 B).2.2 ∧ Bs (d4 B).2.2 ∧ Bs (d2 B).1 ∧ Bs (d3 B).1 ∧ Bs (d4 B).1 ∧ Bs (d5 B).1 := by
  have b1 : Bs (d1 B).2.2 := by rw [d1_eq]; exact tk_bs2 hB
  have b2 : Bs (d2 B).2.2 := by rw [d2_eq]; exact tkb_bs2 b1
  have b3 : Bs (d3 B).2.2 := by rw [d3_eq]; exact tk_bs2 b2
  have b4 : Bs (d4 B).2.2 := by rw [d4_eq]; exact tk_bs2 b3
  exact ⟨b1, b2, b3, b4, by rw [d2_eq]; exact tkb_bs1 b1, by rw [d3_eq]; exact tk_bs1 b2, by rw [d4_eq]; exact tk_bs1 b3, by rw [d5_eq]; exact tkb_bs1 b4⟩
theorem val_four (cs : List Int) (h : Bs cs) (hl : cs.length ≤ 4) : 0 ≤ val cs ∧ val cs ≤ 4294967295 := by
  have hv := val_bd cs h
  rcases (by omega : cs.length = 0 ∨ cs.length = 1 ∨ cs.length = 2 ∨ cs.length = 3 ∨ cs.length = 4) with e | e | e | e | e <;> rw [e] at hv <;> omega
theorem mk_ok {s : ByteArray} {x : Int} {f n : List Int} (h : 0 ≤ x ∧ x ≤ 4294967295) (hf : Bs f) (hn : Bs n) : (Mf.mk s x f n).ok := ⟨h.1, h.2, hf, hn⟩
theorem d3_len (B : List Int) : (d3 B).1.length ≤ 4 := by rw [d3_eq]; exact @tk_len1 (d2 B).2.1 (d2 B).2.2 4
theorem decM_ok {B : List Int} (hB : Bs B) : (decM B).ok := by
  obtain ⟨b1, b2, b3, b4, c2, c3, c4, c5⟩ := ds_bs hB
  unfold decM
  exact mk_ok (val_four _ c3 (d3_len B)) c4 c5
theorem enc_dec {B : List Int} (hB : Bs B) (h : okM B = true) : encM (decM B) = B := by
  obtain ⟨h77, ⟨h5, r5⟩, hr⟩ := (okM_iff B).1 h
  have h4 : (d4 B).2.1 = false := (tkb_bad (by rw [← d5_eq]; exact h5)).1
  have h3 : (d3 B).2.1 = false := (tk_bad (by rw [← d4_eq]; exact h4)).1
  have h2 : (d2 B).2.1 = false := (tk_bad (by rw [← d3_eq]; exact h3)).1
  have h1 : (d1 B).2.1 = false := (tkb_bad (by rw [← d2_eq]; exact h2)).1
  obtain ⟨b1, b2, b3, b4, c2, c3, c4, c5⟩ := ds_bs hB
  have p1 := tk_parts (bs := B) (n := 1) (by rw [← d1_eq]; exact h1)
  rw [← d1_eq] at p1
  have e2 : d2 B = tkb false (d1 B).2.2 20 := by rw [d2_eq, h1]
  have e3 : d3 B = tk false (d2 B).2.2 4 := by rw [d3_eq, h2]
  have e4 : d4 B = tk false (d3 B).2.2 32 := by rw [d4_eq, h3]
  have e5 : d5 B = tkb false (d4 B).2.2 64 := by rw [d5_eq, h4]
  have p2 := tkb_parts (n := 20) b1 (by rw [← e2]; exact h2)
  have p3 := tk_parts (n := 4) (by rw [← e3]; exact h3)
  have p4 := tk_parts (n := 32) (by rw [← e4]; exact h4)
  have p5 := tkb_parts (n := 64) b4 (by rw [← e5]; exact h5)
  rw [← e2] at p2
  rw [← e3] at p3
  rw [← e4] at p4
  rw [← e5] at p5
  have n2 : nums (strOfNums (d2 B).1) = (d2 B).1 := nums_str _ c2
  have q1 : (d1 B).1 = [77] := by
    have hl : (d1 B).1.length = 1 := by have := p1.2; omega
    match hd : (d1 B).1, hl with
    | [a], _ => rw [hd] at h77; simp [val] at h77; rw [h77]
  have q3 : be4 (val (d3 B).1) = (d3 B).1 := be4_of_val _ c3 (by omega)
  have s1 : B = [77] ++ (d1 B).2.2 := by have := p1.1; rw [← q1]; exact this
  unfold encM decM
  simp only
  rw [n2, q3]
  conv => rhs; rw [s1, p2.1, p3.1, p4.1, p5.1, r5]
  simp only [List.append_assoc, List.append_nil]
theorem encM_len (m : Mf) : (encM m).length = 9 + (nums m.s).length + m.f.length + m.n.length := by
  unfold encM be2 be4
  simp only [List.length_append, List.length_cons, List.length_nil]
  omega
theorem be2_bs (n : Int) : Bs (be2 n) := by
  intro b hb
  simp only [be2, List.mem_cons, List.not_mem_nil, or_false] at hb
  rcases hb with rfl | rfl <;> omega
theorem encM_bs (m : Mf) (h : m.ok) : Bs (encM m) := by
  unfold encM
  exact ((((Bs.append (fun b hb => by simp at hb; omega) ((be2_bs _).append (nums_bs _))).append (be4_bs _)).append h.f).append ((be2_bs _).append h.n))
end Go.Proofs.YteabdojjllfcpaaGreat

/-
  Chapter 15 as plain functions: items each once, their numbers, a batch as a record, what a journal's records hold.
-/
namespace Go.Proofs.YteabdojjllfcpaaGreat
open Go.RowKit
open Go.Proofs
/-- one more item, if it is new. -/
def insU (l : List (List Int)) (x : List Int) : List (List Int) := if x ∈ l then l else l ++ [x]
/-- all items behind an Add. -/
def allU (l xs : List (List Int)) : List (List Int) := xs.foldl insU l
/-- the number of each. -/
def numU (l xs : List (List Int)) : List Nat := xs.map fun x => (allU l xs).idxOf x
/-- the new ones. -/
def newU (l xs : List (List Int)) : List (List Int) := (allU l xs).drop l.length
theorem insU_old {l : List (List Int)} {x : List Int} (h : x ∈ l) : insU l x = l := if_pos h
theorem insU_new {l : List (List Int)} {x : List Int} (h : x ∉ l) : insU l x = l ++ [x] := if_neg h
theorem insU_pre (l : List (List Int)) (x : List Int) : ∃ t, insU l x = l ++ t := by
  unfold insU
  split
  · exact ⟨[], by simp⟩
  · exact ⟨[x], rfl⟩
theorem insU_nodup {l : List (List Int)} {x : List Int} (h : l.Nodup) : (insU l x).Nodup := by
  unfold insU
  split
  · exact h
  · rename_i hx
    rw [List.nodup_append]
    exact ⟨h, by simp, fun a ha b hb => by simp at hb; subst hb; exact fun e => hx (e ▸ ha)⟩
theorem allU_cons (l : List (List Int)) (x : List Int) (xs : List (List Int)) : allU l (x :: xs) = allU (insU l x) xs := rfl
theorem allU_snoc (l xs : List (List Int)) (x : List Int) : allU l (xs ++ [x]) = insU (allU l xs) x := by simp [allU, List.foldl_append]
theorem allU_pre (l xs : List (List Int)) : ∃ t, allU l xs = l ++ t := by
  induction xs generalizing l with
  | nil => exact ⟨[], by simp [allU]⟩
  | cons x xs ih =>
    obtain ⟨t, ht⟩ := insU_pre l x
    obtain ⟨u, hu⟩ := ih (insU l x)
    exact ⟨t ++ u, by rw [allU_cons, hu, ht, List.append_assoc]⟩
theorem allU_new (l xs : List (List Int)) : allU l xs = l ++ newU l xs := by
  obtain ⟨t, ht⟩ := allU_pre l xs
  unfold newU
  rw [ht, List.drop_left]
theorem allU_len (l xs : List (List Int)) : (allU l xs).length = l.length + (newU l xs).length := by
  have := congrArg List.length (allU_new l xs)
  rwa [List.length_append] at this
theorem allU_nodup {l xs : List (List Int)} (h : l.Nodup) : (allU l xs).Nodup := by
  induction xs generalizing l with
  | nil => exact h
  | cons x xs ih => exact ih (insU_nodup h)
theorem allU_mem (l xs : List (List Int)) (y : List Int) : y ∈ allU l xs ↔ y ∈ l ∨ y ∈ xs := by
  induction xs generalizing l with
  | nil => simp [allU]
  | cons x xs ih =>
    rw [allU_cons, ih]
    unfold insU
    split
    · rename_i hx
      constructor
      · rintro (h | h)
        · exact .inl h
        · exact .inr (List.mem_cons_of_mem _ h)
      · rintro (h | h)
        · exact .inl h
        · rcases List.mem_cons.1 h with rfl | h
          · exact .inl hx
          · exact .inr h
    · simp only [List.mem_append, List.mem_cons, List.not_mem_nil, or_false]
      constructor
      · rintro ((h | h) | h)
        · exact .inl h
        · exact .inr (.inl h)
        · exact .inr (.inr h)
      · rintro (h | h | h)
        · exact .inl (.inl h)
        · exact .inl (.inr h)
        · exact .inr h
theorem allU_le (l xs : List (List Int)) : (allU l xs).length ≤ l.length + xs.length := by
  induction xs generalizing l with
  | nil => simp [allU]
  | cons x xs ih =>
    have := ih (insU l x)
    rw [allU_cons]
    unfold insU at this ⊢
    split at this
    · rename_i hx; rw [if_pos hx]; simp only [List.length_cons]; omega
    · rename_i hx; rw [if_neg hx]; simp only [List.length_append, List.length_cons, List.length_nil] at this ⊢; omega
theorem newU_le (l xs : List (List Int)) : (newU l xs).length ≤ xs.length := by
  have := allU_le l xs
  have := allU_len l xs
  omega
theorem newU_mem {l xs : List (List Int)} {y : List Int} (hl : l.Nodup) (h : y ∈ newU l xs) : y ∈ xs ∧ y ∉ l := by
  have hn := allU_nodup (xs := xs) hl
  rw [allU_new] at hn
  have hd := (List.nodup_append.1 hn).2.2
  have h1 : y ∉ l := fun hy => hd y hy y h rfl
  have h2 : y ∈ allU l xs := by rw [allU_new]; exact List.mem_append.2 (.inr h)
  exact ⟨((allU_mem l xs y).1 h2).resolve_left h1, h1⟩
theorem newU_snoc (l xs : List (List Int)) (x : List Int) : newU l (xs ++ [x]) = if x ∈ allU l xs then newU l xs else newU l xs ++ [x] := by
  have h := allU_snoc l xs x
  rw [allU_new l xs] at h
  by_cases hx : x ∈ allU l xs
  · rw [if_pos hx]
    rw [allU_new] at hx
    rw [insU_old hx, allU_new] at h
    exact List.append_cancel_left h
  · rw [if_neg hx]
    rw [allU_new] at hx
    rw [insU_new hx, allU_new, List.append_assoc] at h
    exact List.append_cancel_left h
theorem idx_pre {l t : List (List Int)} {x : List Int} (h : x ∈ l) : (l ++ t).idxOf x = l.idxOf x := by rw [List.idxOf_append, if_pos h]
theorem idx_post {l t : List (List Int)} {x : List Int} (h : x ∉ l) : (l ++ t).idxOf x = t.idxOf x + l.length := by rw [List.idxOf_append, if_neg h]
theorem idx_none {l : List (List Int)} {x : List Int} (h : x ∉ l) : l.idxOf x = l.length := List.idxOf_eq_length h
theorem idx_ins (l : List (List Int)) (x : List Int) : (insU l x).idxOf x = l.idxOf x := by
  unfold insU
  split
  · rfl
  · rename_i h
    rw [idx_post h, idx_none h]
    simp
theorem numU_snoc (l xs : List (List Int)) (x : List Int) : numU l (xs ++ [x]) = numU l xs ++ [(allU l xs).idxOf x] := by
  unfold numU
  rw [List.map_append, allU_snoc]
  congr 1
  · refine List.map_congr_left (fun y hy => ?_)
    obtain ⟨t, ht⟩ := insU_pre (allU l xs) x
    rw [ht, idx_pre ((allU_mem l xs y).2 (.inr hy))]
  · simp [idx_ins]
theorem newU_nil (l : List (List Int)) : newU l [] = [] := by simp [newU, allU]
/-- an item in a batch. -/
def itmU (x : List Int) : List Int := be2 x.length ++ x
/-- a batch. -/
def batU (l : List (List Int)) : List Int := bq l.length ++ (l.map itmU).flatten
theorem itmU_len (x : List Int) : (itmU x).length = 2 + x.length := by simp [itmU, be2]; omega
theorem itmU_bs {x : List Int} (h : Bs x) : Bs (itmU x) := fun b hb => by
  rcases List.mem_append.1 hb with hb | hb
  · exact be2_bs _ b hb
  · exact h b hb
theorem flatU_bs {l : List (List Int)} (h : ∀ x ∈ l, Bs x) : Bs (l.map itmU).flatten := fun b hb => by
  obtain ⟨x, hx, hb⟩ := List.mem_flatten.1 hb
  obtain ⟨y, hy, rfl⟩ := List.mem_map.1 hx
  exact itmU_bs (h y hy) b hb
theorem batU_bs {l : List (List Int)} (h : ∀ x ∈ l, Bs x) : Bs (batU l) := fun b hb => by
  rcases List.mem_append.1 hb with hb | hb
  · exact bq_bs _ b hb
  · exact flatU_bs h b hb
theorem flatU_len (l : List (List Int)) (m : Nat) (h : ∀ x ∈ l, x.length ≤ m) : ((l.map itmU).flatten).length ≤ l.length * (2 + m) := by
  induction l with
  | nil => simp
  | cons x l ih =>
    have h1 := h x (by simp)
    have h2 := ih (fun y hy => h y (by simp [hy]))
    simp only [List.map_cons, List.flatten_cons, List.length_append, itmU_len, List.length_cons, Nat.add_mul, Nat.one_mul]
    omega
theorem batU_len (l : List (List Int)) (m : Nat) (h : ∀ x ∈ l, x.length ≤ m) : (batU l).length ≤ 4 + l.length * (2 + m) := by
  have := flatU_len l m h
  unfold batU
  rw [List.length_append, bq_len]
  omega
/-- n items, and nothing behind them. -/
def itsU : Nat → List Int → Option (List (List Int))
  | 0, bs => if bs = [] then some [] else none
  | n + 1, bs => if (tkb false bs 65535).2.1 then none else (itsU n (tkb false bs 65535).2.2).map ((tkb false bs 65535).1 :: ·)
/-- a record's items. -/
def unlU (b : List Int) : Option (List (List Int)) := if b.length < 4 then none else if (val (b.take 4)).toNat = 0 then none else itsU (val (b.take 4)).toNat (b.drop 4)
/-- the items of records, behind those of earlier ones. -/
def gatU : List (List Int) → List (List Int) → Option (List (List Int))
  | l, [] => some l
  | l, r :: rs => match unlU r with
    | none => none
    | some xs => if (l ++ xs).Nodup then gatU (l ++ xs) rs else none
def redU (rs : List (List Int)) : Option (List (List Int)) := match gatU [] rs with
  | none => none
  | some l => if l.length ≤ 256 then some l else none
theorem gatU_snoc (l rs : List (List Int)) (r : List Int) : gatU l (rs ++ [r]) = (gatU l rs).bind (fun m => gatU m [r]) := by
  induction rs generalizing l with
  | nil => rfl
  | cons x rs ih =>
    simp only [List.cons_append, gatU]
    split
    · rfl
    · split
      · exact ih _
      · rfl
end Go.Proofs.YteabdojjllfcpaaGreat

/-
  Lists of slices as arguments; the contracts of the law package's helpers Few and Sized over this seat's program.
-/
namespace Go.Proofs.YteabdojjllfcpaaGreat
open Go.ChangeShapes Go.WideShapes Go.ChangeAt Go.RowKit
open Go.Deep
section
variable {H : Type} {enc : TypeId × Value → H} {w : World}
end
theorem Lists.take {w : World} {ao : Option Addr} {len c n : Nat} {l : List (Value × List Int)} (h : Lists w (.slice ao len c) l) (hn : n ≤ l.length) : Lists w (.slice ao n c) (l.take n) := by
  obtain ⟨ao', c', e, h1, h2⟩ := h
  cases e
  have hl : (l.take n).length = n := by simp; omega
  refine ⟨ao, c, by rw [hl], by omega, fun i hi => ?_⟩
  obtain ⟨b, off, e, h3, h4, h5⟩ := h2 i (by omega)
  have e2 : (l.take n)[i] = l[i]'(by omega) := List.getElem_take
  rw [e2]
  exact ⟨b, off, e, h3, h4, h5⟩
/-- the row of texts that Few has made so far. -/
def FewAt (w wr : World) (l : List (Value × List Int)) (most k : Nat) (o : Value) : Prop :=
  ∃ l' : List (Value × List Int), l'.length = k ∧ wr.ownsRow w.heap.size 28 1 o k (l'.map (·.1)) ∧ Kp [] w wr ∧ (∀ x ∈ l', Sl w x.1 x.2) ∧ l'.map (·.2) = (l.take k).map fun x => x.2.take most
theorem FewAt.lists {w wr : World} {l : List (Value × List Int)} {most k : Nat} {o : Value} (h : FewAt w wr l most k o) (hB : ∀ x ∈ l, Bs x.2) (hk : k ≤ 1000) : ∃ l', Lists wr o l' ∧ l'.map (·.2) = (l.take k).map fun x => x.2.take most := by
  obtain ⟨l', rfl, ho, hK, hS, he⟩ := h
  refine ⟨l', ?_, he⟩
  have hBs : ∀ x ∈ l', Bs x.2 := fun x hx => by
    have : x.2 ∈ l'.map (·.2) := List.mem_map_of_mem hx
    rw [he] at this
    obtain ⟨y, hy, hy2⟩ := List.mem_map.1 this
    rw [← hy2]
    exact (hB y (List.mem_of_mem_take hy)).take _
  rcases ho.2 with ⟨rfl, h0⟩ | ⟨g, cap, cur, rfl, _, hg, _⟩
  · exact ⟨none, 0, by rw [h0], by omega, fun i hi => by omega⟩
  · refine ⟨some ⟨g, 0, none⟩, cap, rfl, by omega, fun i hi => ⟨g, 0, rfl, ?_, (hS _ (List.getElem_mem hi)).kept hK (by simp), hBs _ (List.getElem_mem hi)⟩⟩
    have := ho.cells (g := g) rfl i l'[i].1 (by simp [List.getElem?_eq_getElem hi])
    rwa [Addr.add_lit] at this
end Go.Proofs.YteabdojjllfcpaaGreat

/-
  A disk in memory: its block of five cells, its row of bytes; what a step of it may change. Both the program's and the reference's lie so.
-/
namespace Go.Proofs.YteabdojjllfcpaaGreat
open Go.RowKit
open Go.Proofs
/-- five cells at p. -/
def Fv (T : TypeId) (w : World) (p : Nat) (a b c d e : Value) : Prop := w.heap[p]? = some (.cells #[a, b, c, d, e] T (0, 0))
section
variable {T : TypeId} {w w' : World} {p : Nat} {a b c d e : Value}
theorem Fv.lt (h : Fv T w p a b c d e) : p < w.heap.size := (Array.getElem?_eq_some_iff.1 h).1
theorem Fv.c0 (h : Fv T w p a b c d e) : w.cell? ⟨p, 0, none⟩ = some a := by rw [cell_of_row w p 0 _ _ _ h]; rfl
theorem Fv.c1 (h : Fv T w p a b c d e) : w.cell? ⟨p, 1, none⟩ = some b := by rw [cell_of_row w p 1 _ _ _ h]; rfl
theorem Fv.c2 (h : Fv T w p a b c d e) : w.cell? ⟨p, 2, none⟩ = some c := by rw [cell_of_row w p 2 _ _ _ h]; rfl
theorem Fv.c3 (h : Fv T w p a b c d e) : w.cell? ⟨p, 3, none⟩ = some d := by rw [cell_of_row w p 3 _ _ _ h]; rfl
theorem Fv.c4 (h : Fv T w p a b c d e) : w.cell? ⟨p, 4, none⟩ = some e := by rw [cell_of_row w p 4 _ _ _ h]; rfl
theorem Fv.f (h : Fv T w p a b c d e) (i : Nat) : w.frozen? ⟨p, i, none⟩ = false := by
  unfold World.frozen?
  unfold Fv at h
  simp [h]
theorem set_at {w : World} {p : Nat} {cs : Array Value} {t : TypeId} (h : w.heap[p]? = some (.cells cs t (0, 0))) (i : Nat) (u : Value) : (w.setCell ⟨p, i, none⟩ u).heap[p]? = some (.cells (cs.setIfInBounds i u) t (0, 0)) := heap_setCell_same w p i _ _ _ h
theorem Fv.s0 (h : Fv T w p a b c d e) (u : Value) : Fv T (w.setCell ⟨p, 0, none⟩ u) p u b c d e := by have := set_at h 0 u; simpa [Fv] using this
theorem Fv.s1 (h : Fv T w p a b c d e) (u : Value) : Fv T (w.setCell ⟨p, 1, none⟩ u) p a u c d e := by have := set_at h 1 u; simpa [Fv] using this
theorem Fv.s2 (h : Fv T w p a b c d e) (u : Value) : Fv T (w.setCell ⟨p, 2, none⟩ u) p a b u d e := by have := set_at h 2 u; simpa [Fv] using this
theorem Fv.s3 (h : Fv T w p a b c d e) (u : Value) : Fv T (w.setCell ⟨p, 3, none⟩ u) p a b c u e := by have := set_at h 3 u; simpa [Fv] using this
theorem Fv.s4 (h : Fv T w p a b c d e) (u : Value) : Fv T (w.setCell ⟨p, 4, none⟩ u) p a b c d u := by have := set_at h 4 u; simpa [Fv] using this
theorem Fv.kept {S : List Nat} (h : Fv T w p a b c d e) (k : Kp S w w') (hp : p ∉ S) : Fv T w' p a b c d e := k.heap h hp
end
theorem kp_set (w : World) (p i : Nat) (u : Value) : Kp [p] w (w.setCell ⟨p, i, none⟩ u) := (Kp.refl [p] w).setCell (p := ⟨p, i, none⟩) (.inl (by simp)) _
/-- What calls leave besides. -/
structure Dk.Fit (d : Dk) : Prop where
  ok : d.Ok
  lo : -9223372036854775808 ≤ d.arm
  hi : d.arm ≤ 9223372036854775807
  dn : d.down = true → d.arm = 0
  bytes : Bs d.bs
/-- The disk at p. -/
structure Dsk (T : TypeId) (w : World) (base p : Nat) (v : Value) (d : Dk) : Prop where
  here : Fv T w p v (.int .i64 d.syn) (.int .i64 d.lim) (.int .i64 d.arm) (.bool d.down)
  row : Row w base v d.bs
  fit : d.Fit
  typ : T ≠ 5
/-- the blocks that a step of the disk may write. -/
def dfp (p : Nat) (v : Value) : List Nat := p :: v.ownBlock.toList
theorem mem_dfp {p i : Nat} {v : Value} : i ∈ dfp p v ↔ i = p ∨ v.ownBlock = some i := by simp [dfp, Option.mem_toList]
def DSt (p : Nat) (w : World) (v : Value) (w' : World) (v' : Value) : Prop := Kp (dfp p v) w w' ∧ ∀ k, v'.ownBlock = some k → v.ownBlock = some k ∨ w.heap.size ≤ k
theorem DSt.refl (p : Nat) (w : World) (v : Value) : DSt p w v w v := ⟨Kp.refl _ _, fun _ h => .inl h⟩
theorem DSt.trans {p : Nat} {a b c : World} {u v x : Value} (h : DSt p a u b v) (k : DSt p b v c x) : DSt p a u c x := by
  refine ⟨h.1.then k.1 (fun i hi => ?_), fun i hi => ?_⟩
  · rcases mem_dfp.1 hi with rfl | hi
    · exact .inl (mem_dfp.2 (.inl rfl))
    · rcases h.2 i hi with h1 | h1
      · exact .inl (mem_dfp.2 (.inr h1))
      · exact .inr h1
  · rcases k.2 i hi with h1 | h1
    · exact h.2 i h1
    · exact .inr (Nat.le_trans h.1.size h1)
theorem DSt.mid {p : Nat} {a b : World} (v : Value) (k : Kp [] a b) : DSt p a v b v := ⟨k.mono (by simp), fun _ h => .inl h⟩
theorem DSt.one {p : Nat} {a b : World} (v : Value) (k : Kp [p] a b) : DSt p a v b v := ⟨k.mono (fun i hi => mem_dfp.2 (.inl (by simpa using hi))), fun _ h => .inl h⟩
section
variable {T : TypeId} {w w' : World} {base p : Nat} {v : Value} {d d' : Dk}
theorem row_typ {bs : List Int} (h : Row w base v bs) {k : Nat} (hk : v.ownBlock = some k) : ∃ c, w.heap[k]? = some (.cells c 5 (0, 0)) := by
  rcases h.2 with ⟨rfl, _⟩ | ⟨g, cap, cur, rfl, hb, hg, _⟩
  · cases hk
  · cases hk; exact ⟨_, hg⟩
theorem apart_of {bs : List Int} {a b c d e : Value} (h : Fv T w p a b c d e) (hr : Row w base v bs) (hT : T ≠ 5) : v.ownBlock ≠ some p := fun e => by
  obtain ⟨c, hc⟩ := row_typ hr e
  unfold Fv at h
  rw [h] at hc
  injection hc with h1
  injection h1 with _ h2
  exact hT h2
theorem Dsk.apart (h : Dsk T w base p v d) : v.ownBlock ≠ some p := apart_of h.here h.row h.typ
theorem Dsk.lt (h : Dsk T w base p v d) : ∀ i ∈ dfp p v, i < w.heap.size := fun i hi => by
  rcases mem_dfp.1 hi with rfl | hi
  · exact h.here.lt
  · exact h.row.lt hi
theorem Dsk.own (h : Dsk T w base p v d) : ∀ i ∈ dfp p v, i = p ∨ base ≤ i := fun i hi => by
  rcases mem_dfp.1 hi with rfl | hi
  · exact .inl rfl
  · exact .inr (h.row.own i hi)
theorem Dsk.kept {S : List Nat} (h : Dsk T w base p v d) (k : Kp S w w') (hS : ∀ i ∈ dfp p v, i ∉ S) : Dsk T w' base p v d :=
  ⟨h.here.kept k (hS p (mem_dfp.2 (.inl rfl))), h.row.kept k (fun i hi => hS i (mem_dfp.2 (.inr hi))), h.fit, h.typ⟩
theorem Dsk.keptN (h : Dsk T w base p v d) (k : Kp [] w w') : Dsk T w' base p v d := h.kept k (by simp)
/-- other numbers beside the same bytes. -/
theorem Dsk.poke (h : Dsk T w base p v d) (k : Kp [p] w w') (he : Fv T w' p v (.int .i64 d'.syn) (.int .i64 d'.lim) (.int .i64 d'.arm) (.bool d'.down)) (hb : d'.bs = d.bs) (hf : d'.Fit) : Dsk T w' base p v d' :=
  ⟨he, by rw [hb]; exact h.row.kept k (fun i hi hm => h.apart (by simp at hm; rw [← hm]; exact hi)), hf, h.typ⟩
theorem Dsk.shape (h : Dsk T w base p v d) : ∃ ao c, v = .slice ao d.bs.length c := h.row.shape
theorem Dsk.sl (h : Dsk T w base p v d) : Sl w v d.bs := h.row.sl
/-- bytes do not lie in a disk's block. -/
theorem Sl.offp {vb : Value} {bs : List Int} {a b c d e : Value} (hS : Sl w vb bs) (h : Fv T w p a b c d e) (hv : ∀ x ∈ [a, b, c, d, e], ∀ y, x ≠ .int .u8 y) (k : Kp [p] w w') : Sl w' vb bs := by
  obtain ⟨ao, cc, rfl, h1, h2, h3, h4⟩ := hS
  refine ⟨ao, cc, rfl, h1, h2, h3, fun ad ha j u hu => ?_⟩
  have hc := h4 ad ha j u hu
  refine k.cell hc ?_
  rw [add_block]
  intro hm
  have hm : ad.block = p := by simpa using hm
  obtain ⟨x, hx⟩ : ∃ x, u = .int .u8 x := by
    rw [List.getElem?_map] at hu
    cases hb : bs[j]? with
    | none => rw [hb] at hu; cases hu
    | some y => rw [hb] at hu; exact ⟨y, by simpa using hu.symm⟩
  have hsp := World.cell?_spot hc
  obtain ⟨i, hi⟩ : ∃ i, ad.add j = ⟨p, i, none⟩ := by
    refine ⟨(ad.add j).off, ?_⟩
    have hb := add_block ad j
    rw [← hsp, ← hm, ← hb]
  rw [hi, cell_of_row w p i _ _ _ h] at hc
  have hmem : u ∈ [a, b, c, d, e] := by
    have := Array.mem_of_getElem? hc
    simpa using this
  exact hv u hmem x hx
theorem dsk_noby (v : Value) (hv : ∃ ao n c, v = .slice ao n c) (a b c : Int) (e : Bool) : ∀ x ∈ [v, .int .i64 a, .int .i64 b, .int .i64 c, .bool e], ∀ y, x ≠ .int .u8 y := by
  obtain ⟨ao, n, c', rfl⟩ := hv
  intro x hx y
  rcases (by simpa using hx : x = .slice ao n c' ∨ x = .int .i64 a ∨ x = .int .i64 b ∨ x = .int .i64 c ∨ x = .bool e) with rfl | rfl | rfl | rfl | rfl <;> simp
theorem Dsk.sloff {vb : Value} {bs : List Int} (h : Dsk T w base p v d) (hS : Sl w vb bs) (k : Kp [p] w w') : Sl w' vb bs := by
  obtain ⟨ao, c, e⟩ := h.shape
  exact hS.offp h.here (dsk_noby v ⟨_, _, _, e⟩ _ _ _ _) k
end
/-- fewer bytes of a row. -/
theorem Row.take {w : World} {base m c : Nat} {ao : Option Addr} {bs : List Int} (h : Row w base (.slice ao m c) bs) (n : Nat) (hn : n ≤ bs.length) : Row w base (.slice ao n c) (bs.take n) := by
  have hm := h.len
  subst hm
  have hl : (bs.take n).length = n := by simp; omega
  rcases h.2 with ⟨h', h0⟩ | ⟨g, cap, cur, h', hb, hg, hc, hx, hs, ht⟩
  · injection h' with h1 h2 h3
    subst h1
    obtain rfl : n = 0 := by omega
    have : bs = [] := List.eq_nil_of_length_eq_zero h0
    subst this
    subst h3
    exact ⟨by simp, .inl ⟨rfl, rfl⟩⟩
  · injection h' with h1 h2 h3
    subst h1
    subst h3
    refine ⟨by simp, .inr ⟨g, c, cur, by rw [hl], hb, hg, by omega, hx, hs, ?_⟩⟩
    rw [hl, List.map_take, ← ht, List.take_take]
    congr 1
    omega
theorem Row.room {w : World} {base m c : Nat} {ao : Option Addr} {bs : List Int} (h : Row w base (.slice ao m c) bs) : m ≤ c ∧ (ao = none → c = 0) := by
  rcases h.2 with ⟨h', h0⟩ | ⟨g, cap, cur, h', hb, hg, hc, hx, hs, ht⟩
  · injection h' with h1 h2 h3
    exact ⟨by omega, fun _ => h3⟩
  · injection h' with h1 h2 h3
    subst h3
    rw [h2]
    exact ⟨hc, fun e => by rw [h1] at e; cases e⟩
/-- slicing a slice at its beginning, as an equation. -/
theorem run_first (ao : Option Addr) (n c k : Nat) (w : World) (h2 : k ≤ c) (h4 : ao = none → c = 0) :
    (Instr.sliceAt 28 (.slice ao n c) none (some (.int .i64 (k : Nat))) none).run Tryz.prog w = .ok (.slice ao k c) w := by
  cases ao with
  | none =>
    have h0 := h4 rfl
    obtain rfl : k = 0 := by omega
    subst h0
    simp [go_sem, Tryz.underlying28]
  | some a =>
    have : (k : Int) ≤ (c : Int) := by omega
    simp [go_sem, Tryz.underlying28, this]
namespace Dk
/-- One call counted, as the program does. -/
def cnt (d : Dk) : Dk := if d.arm = 0 then d else { d with arm := d.arm - 1, down := decide (d.arm - 1 = 0) }
theorem cnt_bs (d : Dk) : d.cnt.bs = d.bs ∧ d.cnt.syn = d.syn ∧ d.cnt.lim = d.lim := by unfold cnt; split <;> exact ⟨rfl, rfl, rfl⟩
theorem cal_cnt {d : Dk} (h : d.Fit) (h0 : 0 ≤ d.arm) : d.cal = (!d.cnt.down, (!d.down && d.cnt.down), d.cnt) := by
  unfold cal cnt
  by_cases hd : d.down = true
  · rw [if_pos hd, if_pos (h.dn hd), hd]; rfl
  · have hd' : d.down = false := by simpa using hd
    rw [if_neg hd]
    by_cases ha : d.arm = 0
    · rw [if_neg (by omega), if_pos ha, hd']; rfl
    · rw [if_pos (by omega), if_neg ha]
      by_cases h1 : d.arm = 1
      · rw [if_pos h1, h1, hd']; rfl
      · rw [if_neg h1]
        have : decide (d.arm - 1 = 0) = false := decide_eq_false (by omega)
        rw [this, hd']
        simp
theorem app_cnt {d : Dk} (h : d.Fit) (h0 : 0 ≤ d.arm) (hd : d.down = false) (b : List Int) : d.app b = if d.lim < ((d.bs.length + b.length : Nat) : Int) then (false, d.cnt) else (!d.cnt.down, { d.cnt with bs := d.bs ++ b }) := by
  unfold app
  rw [cal_cnt h h0, hd]
  by_cases hl : d.lim < ((d.bs.length + b.length : Nat) : Int)
  · rw [if_pos (by simp; omega), if_pos hl]
  · rw [if_neg (by simp; omega), if_neg hl]
theorem sync_cnt {d : Dk} (h : d.Fit) (h0 : 0 ≤ d.arm) : d.sync = if d.cnt.down then (false, d.cnt) else (true, { d.cnt with syn := d.bs.length }) := by
  unfold sync
  rw [cal_cnt h h0]
  cases d.cnt.down <;> rfl
theorem cut_cnt {d : Dk} (h : d.Fit) (h0 : 0 ≤ d.arm) (n : Int) (hn : d.down = true ∨ (0 ≤ n ∧ n ≤ d.bs.length)) : d.cut n = if d.cnt.down then (13, d.cnt) else (0, { d.cnt with bs := d.bs.take n.toNat, syn := n.toNat }) := by
  unfold cut
  by_cases hd : d.down = true
  · have : d.cnt = d := by unfold cnt; rw [if_pos (h.dn hd)]
    rw [if_pos hd, this, if_pos hd]
  · have hn := hn.resolve_left hd
    rw [if_neg hd, if_neg (by omega), cal_cnt h h0]
    cases d.cnt.down <;> rfl
theorem cnt_fit {d : Dk} (h : d.Fit) (h0 : 0 ≤ d.arm) : d.cnt.Fit ∧ 0 ≤ d.cnt.arm := by
  obtain ⟨e1, e2, e3⟩ := d.cnt_bs
  have hh := h.hi
  refine ⟨⟨⟨by rw [e1, e2]; exact h.ok.syn, by rw [e1, e3]; exact h.ok.fits, by rw [e3]; exact h.ok.lim⟩, ?_, ?_, ?_, by rw [e1]; exact h.bytes⟩, ?_⟩
  all_goals unfold cnt
  all_goals split
  all_goals try simp only []
  · omega
  · omega
  · omega
  · omega
  · exact h.dn
  · intro hd; exact of_decide_eq_true hd
  · omega
  · omega
theorem cnt_down {d : Dk} (h : d.Fit) (hd : d.down = true) : d.cnt = d := by unfold cnt; rw [if_pos (h.dn hd)]
end Dk
end Go.Proofs.YteabdojjllfcpaaGreat

/-
  Things that lie side by side in memory: the blocks of each, and what a step of one of them may write.
-/
namespace Go.Proofs.YteabdojjllfcpaaGreat
open Go.RowKit
open Go.Proofs
/-- a step of a thing that lies in the blocks F, behind it in F': it writes its own blocks, and makes new ones. -/
def Stp (F : Nat → Prop) (w w' : World) (F' : Nat → Prop) : Prop := (∃ S, (∀ i ∈ S, F i) ∧ Kp S w w') ∧ ∀ i, F' i → F i ∨ (w.heap.size ≤ i ∧ i < w'.heap.size)
theorem Stp.refl (F : Nat → Prop) (w : World) : Stp F w w F := ⟨⟨[], by simp, Kp.refl _ _⟩, fun _ h => .inl h⟩
theorem Stp.size {F F' : Nat → Prop} {w w' : World} (h : Stp F w w' F') : w.heap.size ≤ w'.heap.size := by obtain ⟨⟨S, _, k⟩, _⟩ := h; exact k.size
theorem Kp.comp {S T : List Nat} {a b c : World} (h : Kp S a b) (k : Kp T b c) : Kp (S ++ T) a c := (h.mono (by simp; intro x hx; exact .inl hx)).trans (k.mono (by simp; intro x hx; exact .inr hx))
/-- blocks that were not there make no odds. -/
theorem Kp.less {S T : List Nat} {a b : World} (h : Kp S a b) (hs : ∀ i ∈ S, i < a.heap.size → i ∈ T) : Kp T a b := ⟨h.os, h.tape, h.output, h.size, fun i hi hn => h.block i hi (fun hm => hn (hs i hm hi))⟩
theorem Stp.trans {F F' F'' : Nat → Prop} {a b c : World} (h : Stp F a b F') (k : Stp F' b c F'') : Stp F a c F'' := by
  obtain ⟨⟨S, hS, kS⟩, h2⟩ := h
  obtain ⟨⟨T, hT, kT⟩, k2⟩ := k
  refine ⟨⟨S ++ T.filter (fun i => decide (i < a.heap.size)), fun i hi => ?_, (kS.comp kT).less (fun i hi hlt => ?_)⟩, fun i hi => ?_⟩
  · rcases List.mem_append.1 hi with hi | hi
    · exact hS i hi
    · obtain ⟨h3, h4⟩ := List.mem_filter.1 hi
      exact (h2 i (hT i h3)).resolve_right (by have := of_decide_eq_true h4; omega)
  · rcases List.mem_append.1 hi with hi | hi
    · exact List.mem_append.2 (.inl hi)
    · exact List.mem_append.2 (.inr (List.mem_filter.2 ⟨hi, decide_eq_true hlt⟩))
  · rcases k2 i hi with h3 | h3
    · exact (h2 i h3).imp id (fun h => ⟨h.1, Nat.lt_of_lt_of_le h.2 kT.size⟩)
    · exact .inr ⟨Nat.le_trans kS.size h3.1, h3.2⟩
theorem Stp.mid {F : Nat → Prop} {a b : World} (k : Kp [] a b) : Stp F a b F := ⟨⟨[], by simp, k⟩, fun _ h => .inl h⟩
/-- what lies elsewhere stays. -/
theorem Stp.kp {F F' : Nat → Prop} {w w' : World} (h : Stp F w w' F') : ∃ S, (∀ i ∈ S, F i) ∧ Kp S w w' := h.1
theorem Stp.base {F F' : Nat → Prop} {w0 w w' : World} (h : Stp F w w' F') (k : Kp [] w0 w) (hF : ∀ i, F i → w0.heap.size ≤ i) : Kp [] w0 w' := by
  obtain ⟨⟨S, hS, kS⟩, _⟩ := h
  exact k.then kS (fun i hi => .inr (hF i (hS i hi)))
theorem Stp.off {F F' : Nat → Prop} {w w' : World} (h : Stp F w w' F') {i : Nat} (hi : i < w.heap.size) (hn : ¬ F i) : ¬ F' i := fun e => (h.2 i e).elim hn (fun h2 => by omega)
theorem Stp.heap {F F' : Nat → Prop} {w w' : World} (h : Stp F w w' F') {i : Nat} {o : Obj} (hi : w.heap[i]? = some o) (hn : ¬ F i) : w'.heap[i]? = some o := by
  obtain ⟨⟨S, hS, kS⟩, _⟩ := h
  exact kS.heap hi (fun hm => hn (hS i hm))
/-- which blocks each of many things lies in. -/
def Fps := Nat → Nat → Prop
def Fps.Apart (f : Fps) : Prop := ∀ a b i, f a i → f b i → a = b
def Fps.upd (f : Fps) (a : Nat) (F : Nat → Prop) : Fps := fun b i => (b = a ∧ F i) ∨ (b ≠ a ∧ f b i)
def Fps.tot (f : Fps) : Nat → Prop := fun i => ∃ a, f a i
theorem Fps.Apart.upd {f : Fps} {a : Nat} {F : Nat → Prop} {N : Nat} (h : f.Apart) (hF : ∀ i, F i → f a i ∨ N ≤ i) (hN : ∀ b i, f b i → i < N) : (f.upd a F).Apart := by
  intro b c i hb hc
  rcases hb with ⟨rfl, hb⟩ | ⟨nb, hb⟩
  · rcases hc with ⟨rfl, hc⟩ | ⟨nc, hc⟩
    · rfl
    · rcases hF i hb with h1 | h1
      · exact h _ _ _ h1 hc
      · have := hN _ _ hc; omega
  · rcases hc with ⟨rfl, hc⟩ | ⟨nc, hc⟩
    · rcases hF i hc with h1 | h1
      · exact h _ _ _ hb h1
      · have := hN _ _ hb; omega
    · exact h _ _ _ hb hc
/-- a step of one is a step of all. -/
theorem Stp.one {f : Fps} {a : Nat} {F' : Nat → Prop} {w w' : World} (h : Stp (f a) w w' F') : Stp f.tot w w' (f.upd a F').tot := by
  obtain ⟨⟨S, hS, kS⟩, h2⟩ := h
  refine ⟨⟨S, fun i hi => ⟨a, hS i hi⟩, kS⟩, fun i ⟨b, hb⟩ => ?_⟩
  rcases hb with ⟨rfl, hb⟩ | ⟨_, hb⟩
  · exact (h2 i hb).imp (fun h => ⟨_, h⟩) id
  · exact .inl ⟨b, hb⟩
/-- where they lie. -/
structure Fps.Ok (f : Fps) (w0 w : World) : Prop where
  kp : Kp [] w0 w
  ap : f.Apart
  rng : ∀ a i, f a i → w0.heap.size ≤ i ∧ i < w.heap.size
theorem Fps.Ok.on {f : Fps} {w0 w w' : World} (h : f.Ok w0 w) (k : Kp [] w w') : f.Ok w0 w' := ⟨h.kp.trans k, h.ap, fun a i hi => ⟨(h.rng a i hi).1, Nat.lt_of_lt_of_le (h.rng a i hi).2 k.size⟩⟩
theorem Fps.Ok.upd {f : Fps} {w0 w w' : World} {a : Nat} {F' : Nat → Prop} (h : f.Ok w0 w) (t : Stp (f a) w w' F') : (f.upd a F').Ok w0 w' := by
  refine ⟨t.base h.kp (fun i hi => (h.rng a i hi).1), h.ap.upd (N := w.heap.size) (fun i hi => (t.2 i hi).imp id And.left) (fun b i hi => (h.rng b i hi).2), fun b i hb => ?_⟩
  have hs := t.size
  have h0 := h.kp.size
  rcases hb with ⟨rfl, hb⟩ | ⟨_, hb⟩
  · rcases t.2 i hb with h1 | h1
    · have := h.rng _ i h1; omega
    · omega
  · have := h.rng b i hb; omega
/-- what lies in b stays while a takes a step. -/
theorem Fps.Ok.apart {f : Fps} {w0 w : World} (h : f.Ok w0 w) {a b : Nat} (hne : a ≠ b) {S : List Nat} (hS : ∀ i ∈ S, f a i) : ∀ i ∈ S, ¬ f b i := fun i hi hb => hne (h.ap a b i (hS i hi) hb)
end Go.Proofs.YteabdojjllfcpaaGreat

/-
  Package ledger's shelf in memory: its items' row, its map; find, put, size.
-/
namespace Go.Proofs.YteabdojjllfcpaaGreat
open Go.RowKit
open Go.Proofs
open Go.Maps (Keyed)
set_option linter.unusedVariables false
theorem Tryz.infoStr : (Tryz.prog.info? 9).map (fun i => (i.zero, i.size, i.bytes)) = some (some (.string ByteArray.empty), 1, 16) := by kernel_rfl
theorem lawStr : Keyed Tryz.prog 9 := Go.Maps.string_keyed Tryz.underlying9
theorem zeroInt (w : World) : (zeroValue 3).run Tryz.prog w = .ok (.int .i64 0) w := by kernel_rfl
/-- an item as a string. -/
def sv (x : List Int) : Value := .string (strOfNums x)
/-- .. as a key. -/
def kl (x : List Int) : Lit := .string (strOfNums x).data.toList
theorem kl_of (x : List Int) (h : x.length ≤ 100000) : keyOf Tryz.prog 9 (.string (strOfNums x)) = some (kl x) := Go.WideMaps.keyOf_string_mk Tryz.underlying9 (by rw [str_size]; unfold maxLen; omega)
theorem kl_key (x : List Int) : WideAt.IsKeyLit (kl x) := trivial
theorem kl_inj {x y : List Int} (hx : Bs x) (hy : Bs y) (h : kl x = kl y) : x = y := by
  refine str_same hx hy ?_
  unfold kl at h
  injection h with h
  have h2 : (strOfNums x).data = (strOfNums y).data := by
    have := congrArg List.toArray h
    simpa using this
  cases h3 : strOfNums x
  cases h4 : strOfNums y
  rw [h3, h4] at h2
  simp only at h2
  rw [h2]
/-- the row v of items, of the call's own from base on. -/
def RowU (w : World) (base : Nat) (v : Value) (l : List (List Int)) : Prop := w.ownsRow base 9 1 v l.length (l.map sv)
theorem RowU.kept {w w' : World} {base : Nat} {v : Value} {l : List (List Int)} {S : List Nat} (h : RowU w base v l) (k : Kp S w w') (hv : ∀ i, v.ownBlock = some i → i ∉ S) : RowU w' base v l := k.owns h hv
theorem RowU.shape {w : World} {base : Nat} {v : Value} {l : List (List Int)} (h : RowU w base v l) : ∃ ao c, v = .slice ao l.length c := owns_shape h
theorem RowU.lt {w : World} {base k : Nat} {v : Value} {l : List (List Int)} (h : RowU w base v l) (hk : v.ownBlock = some k) : base ≤ k ∧ k < w.heap.size := by
  rcases h.2 with ⟨rfl, _⟩ | ⟨g, cap, cur, rfl, hb, hg, _⟩
  · cases hk
  · cases hk; exact ⟨hb, (Array.getElem?_eq_some_iff.1 hg).1⟩
/-- a map that holds of each item its place. -/
def Mp (w : World) (b : Nat) (l : List (List Int)) : Prop := ∃ D : DataW Unit, w.ownsMap Tryz.prog 9 (plainElem Tryz.prog 3) b l.length D ∧ ∀ x, Bs x → Go.Maps.has D (kl x) = decide (x ∈ l) ∧ (x ∈ l → D.atKey (kl x) (.lit (.int .i64 0)) = .lit (.int .i64 (l.idxOf x)))
theorem Mp.kept {w w' : World} {b : Nat} {l : List (List Int)} {S : List Nat} (h : Mp w b l) (k : Kp S w w') (hb : b ∉ S) : Mp w' b l := by
  obtain ⟨D, ⟨es, clock, h1, h2⟩, h3⟩ := h
  exact ⟨D, ⟨es, clock, k.heap h1 hb, h2⟩, h3⟩
theorem Mp.lt {w : World} {b : Nat} {l : List (List Int)} (h : Mp w b l) : b < w.heap.size := by obtain ⟨D, h, _⟩ := h; exact h.lt
/-- the two cells of a shelf. -/
def Sc (w : World) (s : Nat) (v : Value) (b : Nat) : Prop := w.heap[s]? = some (.cells #[v, .map (some b)] 119 (0, 0))
/-- The shelf at s with these items, in the blocks F. -/
structure Sh (w : World) (s : Nat) (l : List (List Int)) (F : Nat → Prop) : Prop where
  ex : ∃ v b, Sc w s v b ∧ RowU w 0 v l ∧ Mp w b l ∧ F s ∧ F b ∧ (∀ k, v.ownBlock = some k → F k ∧ k ≠ s ∧ k ≠ b) ∧ s ≠ b
  nd : l.Nodup
  bs : ∀ x ∈ l, Bs x ∧ x.length ≤ 65535
  few : l.length ≤ 100000
theorem Sh.kept {w w' : World} {s : Nat} {l : List (List Int)} {F : Nat → Prop} {S : List Nat} (h : Sh w s l F) (k : Kp S w w') (hS : ∀ i ∈ S, ¬ F i) : Sh w' s l F := by
  obtain ⟨⟨v, b, h1, h2, h3, h4, h5, h6, h7⟩, h8, h9, h10⟩ := h
  exact ⟨⟨v, b, k.heap h1 (fun hm => hS _ hm h4), h2.kept k (fun i hi hm => hS i hm (h6 i hi).1), h3.kept k (fun hm => hS _ hm h5), h4, h5, h6, h7⟩, h8, h9, h10⟩
theorem Sc.c0 {w : World} {s : Nat} {v : Value} {b : Nat} (h : Sc w s v b) : w.cell? ⟨s, 0, none⟩ = some v := by rw [cell_of_row w s 0 _ _ _ h]; rfl
theorem Sc.c1 {w : World} {s : Nat} {v : Value} {b : Nat} (h : Sc w s v b) : w.cell? ⟨s, 1, none⟩ = some (.map (some b)) := by rw [cell_of_row w s 1 _ _ _ h]; rfl
theorem Sc.f {w : World} {s : Nat} {v : Value} {b : Nat} (h : Sc w s v b) (i : Nat) : w.frozen? ⟨s, i, none⟩ = false := by
  unfold World.frozen?
  unfold Sc at h
  simp [h]
theorem Sc.s0 {w : World} {s : Nat} {v : Value} {b : Nat} (h : Sc w s v b) (u : Value) : Sc (w.setCell ⟨s, 0, none⟩ u) s u b := by
  have := set_at h 0 u
  simpa [Sc] using this
theorem lit_i64 {a b : Int} (h : (DataW.lit (Lit.int .i64 a) : DataW Unit) = .lit (.int .i64 b)) : a = b := by
  injection h with h
  injection h
section
variable {w : World} {s : Nat} {l : List (List Int)} {F : Nat → Prop}
theorem ssize_any (h : Sh w s l F) (n : Int) (hn : n = l.length) : Calls Tryz.prog 64 #[.pointer (some ⟨s, 0, none⟩)] w fun e w' => e = .returned (.int .i64 n) ∧ w' = w := by
  obtain ⟨⟨v, b, h1, h2, -⟩, -, -, h10⟩ := h
  obtain ⟨ao, c, rfl⟩ := h2.shape
  have hc := h1.c0
  clear h1 h2 h10
  go_enter Tryz.func64, Tryz.ntmps64
  go_wp2_with fail
  go_ret
  subst hn
  exact ⟨rfl, rfl⟩
set_option maxHeartbeats 1000000 in
theorem find_any (h : Sh w s l F) (x : List Int) (hB : Bs x) (hl : x.length ≤ 65535) (b : Bool) (hb : b = decide (x ∈ l)) (c : Int) (hc : c = if b then (l.idxOf x : Int) else 0) :
    Calls Tryz.prog 63 #[.pointer (some ⟨s, 0, none⟩), .string (strOfNums x)] w fun e w' => e = .returned (.tuple #[.int .i64 c, .bool b]) ∧ w' = w := by
  obtain ⟨⟨v, bm, h1, -, ⟨D, hown, hD⟩, -⟩, -, -, h10⟩ := h
  have hc1 := h1.c1
  obtain ⟨hh, ha⟩ := hD x hB
  rw [← hb] at hh
  have HA := hide ha
  have HB := hide hb
  have HC := hide hc
  have HH := hide hh
  have HO := hide hown
  have HK := hide (kl_of x (by omega))
  clear h1 hD ha hb hc hh hown hB hl h10
  go_enter Tryz.func63, Tryz.ntmps63
  go_wp2_with (at_lookup; refine wpList_lookup_own_ok_int _ rfl _ _ 117 rfl 9 3 .i64 lawStr Tryz.underlying117 Tryz.underlying3 (zeroInt _) bm _ D rfl HO.out _ _ rfl HK.out ?_; intro c' hat hwc; rw [HH.out]; have HAT := hide hat; clear hat hwc)
  go_ret2
  have e : c' = c := by
    cases b with
    | true => exact (lit_i64 ((HA.out (of_decide_eq_true HB.out.symm)).symm.trans HAT.out)).symm.trans (by rw [HC.out]; rfl)
    | false => exact (lit_i64 ((Go.Maps.atKey_of_not_has HH.out _).symm.trans HAT.out)).symm.trans (by rw [HC.out]; rfl)
  subst e
  exact ⟨rfl, rfl⟩
/-- one more in the map. -/
theorem Mp.put {w' : World} {b : Nat} {l : List (List Int)} {D : DataW Unit} {x : List Int} (hown : w'.ownsMap Tryz.prog 9 (plainElem Tryz.prog 3) b (l.length + 1) (D.put (kl x) (.lit (.int .i64 l.length)))) (hm : Go.Maps.IsMap D) (hD : ∀ x, Bs x → Go.Maps.has D (kl x) = decide (x ∈ l) ∧ (x ∈ l → D.atKey (kl x) (.lit (.int .i64 0)) = .lit (.int .i64 (l.idxOf x)))) (hB : Bs x) (hx : x ∉ l) : Mp w' b (l ++ [x]) := by
  refine ⟨_, by rw [List.length_append]; exact hown, fun y hy => ?_⟩
  by_cases e : y = x
  · subst e
    refine ⟨?_, fun _ => ?_⟩
    · rw [Go.Maps.has_put_same hm (kl_key y)]
      simp
    · rw [Go.Maps.atKey_put_same hm (kl_key y), idx_post hx]
      simp
  · have hne : kl y ≠ kl x := fun h => e (kl_inj hy hB h)
    obtain ⟨h1, h2⟩ := hD y hy
    refine ⟨?_, fun hm2 => ?_⟩
    · rw [Go.Maps.has_put_other hne, h1]
      simp [e]
    · have hy2 : y ∈ l := by simpa [e] using hm2
      rw [Go.Maps.atKey_put_other hne, h2 hy2, idx_pre hy2]
theorem put_old (h : Sh w s l F) (x : List Int) (hB : Bs x) (hl : x.length ≤ 65535) (hx : x ∈ l) :
    Calls Tryz.prog 72 #[.pointer (some ⟨s, 0, none⟩), .string (strOfNums x)] w fun e w' => e = .returned (.tuple #[.int .i64 (l.idxOf x), .bool true]) ∧ w' = w := by
  have HF := hide (find_any h x hB hl true (by simp [hx]) _ rfl)
  clear h hB hl hx
  go_enter Tryz.func72, Tryz.ntmps72
  go_wp2_with fail
  refine HF.out.mono ?_
  rintro ee w1 ⟨rfl, hw⟩
  subst w1
  clear HF
  go_wp2_with fail
  go_ret2
  exact ⟨rfl, rfl⟩
set_option maxRecDepth 100000 in
set_option maxHeartbeats 2000000 in
theorem put_new (h : Sh w s l F) (hF : ∀ i, F i → i < w.heap.size) (x : List Int) (hB : Bs x) (hl : x.length ≤ 65535) (hx : x ∉ l) (hn : l.length < 100000) (n : Int) (hln : n = l.length) :
    Calls Tryz.prog 72 #[.pointer (some ⟨s, 0, none⟩), .string (strOfNums x)] w fun e w' => e = .returned (.tuple #[.int .i64 n, .bool false]) ∧ ∃ F', Sh w' s (l ++ [x]) F' ∧ Stp F w w' F' := by
  have HF := hide (find_any h x hB hl false (by simp [hx]) 0 rfl)
  have HZ := hide (ssize_any h n hln)
  have HH := hide h
  obtain ⟨⟨v, bm, h1, h2, ⟨D, hown, hD⟩, h4, h5, h6, h7⟩, h8, h9, h10⟩ := h
  obtain ⟨ao, cc, hv⟩ := h2.shape
  have hc0 := h1.c0
  rw [hv] at hc0
  rw [← Int.toNat_natCast l.length] at hc0
  obtain ⟨i0, hi0, hz0, hz1, hz2⟩ := info_parts Tryz.infoStr
  obtain ⟨m, hm⟩ : ∃ m, m = l.length := ⟨_, rfl⟩
  have HM := hide hm
  rw [Int.toNat_natCast, ← hm] at hc0
  have K0 : Kp [] w (w.alloc (.cells #[.string (strOfNums x)] 9)) := (Kp.refl [] w).alloc _
  have HK0 := hide K0
  have HR0 : Hid ((w.alloc (.cells #[.string (strOfNums x)] 9)).ownsRow 0 9 1 (.slice ao m cc) m (l.map sv)) := by rw [hm, ← hv]; exact h2.kept K0 (by simp)
  have HV : Hid (v = .slice ao m cc) := by rw [hm]; exact hv
  have Hh1 := hide h1
  have Hown := hide hown
  have HD := hide hD
  have H46 := hide h6
  have H4 := hide h4
  have H5 := hide h5
  have H7 := hide h7
  have HKL := hide (kl_of x (by omega))
  have HB := hide hB
  have HX := hide hx
  have Hrest := hide (And.intro h8 h9)
  have HFl := hide hF
  have Hlx := hide hl
  have Hn := hide hln
  clear h1 h2 hown hD h4 h5 h6 h7 h8 h9 h10 hv hm K0 hB hx hF hl hln
  go_enter Tryz.func72, Tryz.ntmps72
  go_wp2_with fail
  refine HF.out.mono ?_
  rintro ee w1 ⟨rfl, hw⟩
  subst w1
  clear HF
  go_wp2_with fail
  refine HZ.out.mono ?_
  rintro ee w1 ⟨rfl, hw⟩
  subst w1
  clear HZ
  go_wp2_with (at_builtin; refine wpList_append_own_at _ rfl _ _ 87 rfl 0 9 i0 (.string ByteArray.empty) 1 16 Tryz.underlying87 hi0 hz0 hz1 hz2 rfl (by decide) (.slice ao m cc) m (l.map sv) rfl HR0.out ⟨w.heap.size, 0, none⟩ 1 1 [.string (strOfNums x)] rfl rfl (fun j u hu => World.news_of_block (heap_alloc_new w _) j u (by simpa using hu)) (by simp [Value.oneCell']) (by unfold maxLen; have := HM.out; omega) (by have := HM.out; omega) (Nat.zero_le _) ?_; intro v' w1 hown' hgrow hnil hloc; refine Hid.out ?_)
  have K1 : Kp v.ownBlock.toList (w.alloc (.cells #[.string (strOfNums x)] 9)) w1 := (Kp.refl _ _).grown hgrow (fun k hk => .inl (by rw [HV.out]; simp [hk]))
  have KA : Kp v.ownBlock.toList w w1 := (HK0.out.mono (by simp)).trans K1
  have S1 : Sc w1 s v bm := KA.heap Hh1.out (fun hm => (H46.out s (by simpa [Option.mem_toList] using hm)).2.1 rfl)
  have M1 : w1.ownsMap Tryz.prog 9 (plainElem Tryz.prog 3) bm l.length D := by
    obtain ⟨es, clock, g1, g2⟩ := Hown.out
    exact ⟨es, clock, KA.heap g1 (fun hm => (H46.out bm (by simpa [Option.mem_toList] using hm)).2.2 rfl), g2⟩
  have hf0 := S1.f 0
  have hc0' := S1.c0
  have hc1 : (w1.setCell ⟨s, 0, none⟩ v').cell? ⟨s, 1, none⟩ = some (.map (some bm)) := (S1.s0 v').c1
  have M2 : Hid ((w1.setCell ⟨s, 0, none⟩ v').ownsMap Tryz.prog 9 (plainElem Tryz.prog 3) bm l.length D) := M1.setCell (fun e => H7.out e.symm) _
  have hR' : RowU w1 0 v' (l ++ [x]) := by
    unfold RowU
    rw [List.length_append, List.map_append, ← HM.out]
    exact hown'
  obtain ⟨ao', cc', hv'⟩ := hR'.shape
  obtain ⟨m', hm'⟩ : ∃ m', m' = (l ++ [x]).length := ⟨_, rfl⟩
  rw [← hm'] at hv'
  have HR' := hide hR'
  have HS1 := hide S1
  have HKA := hide KA
  have hloc' : Hid (∀ k, v'.ownBlock = some k → v.ownBlock = some k ∨ k = w.heap.size + 1) := fun k hk => by
    rcases hloc with e | e
    · exact .inl (by rw [HV.out, ← e]; exact hk)
    · rw [e] at hk
      injection hk with hk
      exact .inr (by simpa using hk.symm)
  have HV' := hide hv'
  clear hown' hgrow hnil hloc K1 KA S1 M1 hR' HR0 hc0 hm'
  subst hv'
  refine hide ?_
  go_wp2_with (at_mapUpdate; refine wpList_mapUpdate_own _ rfl _ _ _ 117 rfl 9 3 lawStr Tryz.underlying117 _ bm l.length D rfl M2.out (by unfold maxLen; have := HM.out; omega) _ _ (kl x) rfl rfl HKL.out (.lit (.int .i64 n)) [] (plainElem_int Tryz.underlying3 (WalkArith.wf_i64 (by have := Hn.out; omega))) ?_; intro w3 hown3 hgrow3)
  go_ret2
  have hn3 : n = (l.length : Int) := Hn.out
  subst hn3
  have K2 : Kp [s] w1 (w1.setCell ⟨s, 0, none⟩ (.slice ao' m' cc')) := kp_set w1 s 0 _
  have K3 : Kp [bm] (w1.setCell ⟨s, 0, none⟩ (.slice ao' m' cc')) w3 := (Kp.refl _ _).grown hgrow3 (fun k hk => .inl (by simpa using hk.symm))
  have hsz3 := K3.size
  have hsz1 := HKA.out.size
  have hlt0 := HFl.out
  have hR1 := HR'.out
  have hloc2 := hloc'.out
  have hne : ∀ k, (Value.slice ao' m' cc').ownBlock = some k → k ≠ s ∧ k ≠ bm := fun k hk => by
    rcases hloc2 k hk with h | rfl
    · exact (H46.out k h).2
    · have := hlt0 s H4.out
      have := hlt0 bm H5.out
      omega
  have hbm : bm ≠ s := fun e => H7.out e.symm
  have hS3 : Sc w3 s (.slice ao' m' cc') bm := K3.heap (HS1.out.s0 _) (by simp; exact H7.out)
  have hR3 : RowU w3 0 (.slice ao' m' cc') (l ++ [x]) := (hR1.kept K2 (fun i hi hm => (hne i hi).1 (by simpa using hm))).kept K3 (fun i hi hm => (hne i hi).2 (by simpa using hm))
  refine ⟨rfl, fun i => F i ∨ (Value.slice ao' m' cc').ownBlock = some i, ⟨⟨_, bm, hS3, hR3, Mp.put hown3 M2.out.isMap HD.out HB.out HX.out, .inl H4.out, .inl H5.out, fun k hk => ⟨.inr hk, hne k hk⟩, H7.out⟩, ?_, ?_, ?_⟩, ⟨⟨v.ownBlock.toList ++ [s] ++ [bm], ?_, (HKA.out.comp K2).comp K3⟩, ?_⟩⟩
  · rw [List.nodup_append]
    exact ⟨Hrest.out.1, by simp, fun a ha b hb => by simp at hb; subst hb; exact fun e => HX.out (e ▸ ha)⟩
  · intro y hy
    rcases List.mem_append.1 hy with hy | hy
    · exact Hrest.out.2 y hy
    · obtain rfl : y = x := by simpa using hy
      exact ⟨HB.out, Hlx.out⟩
  · rw [List.length_append]; simp; omega
  · intro i hi
    simp only [List.mem_append, List.mem_singleton, Option.mem_toList] at hi
    rcases hi with (hi | rfl) | rfl
    · exact (H46.out i hi).1
    · exact H4.out
    · exact H5.out
  · intro i hi
    rcases hi with hi | hi
    · exact .inl hi
    · rcases hloc2 i hi with h | rfl
      · exact .inl (H46.out i h).1
      · exact .inr ⟨by omega, (hR3.lt hi).2⟩
/-- put of whatever item. -/
theorem put_any (h : Sh w s l F) (hF : ∀ i, F i → i < w.heap.size) (x : List Int) (hB : Bs x) (hl : x.length ≤ 65535) (hn : l.length < 100000) :
    Calls Tryz.prog 72 #[.pointer (some ⟨s, 0, none⟩), .string (strOfNums x)] w fun e w' => e = .returned (.tuple #[.int .i64 (l.idxOf x), .bool (decide (x ∈ l))]) ∧ ∃ F', Sh w' s (insU l x) F' ∧ Stp F w w' F' := by
  by_cases hx : x ∈ l
  · refine (put_old h x hB hl hx).mono ?_
    rintro e w' ⟨rfl, rfl⟩
    exact ⟨by simp [hx], F, by rw [insU_old hx]; exact h, Stp.refl _ _⟩
  · refine (put_new h hF x hB hl hx hn _ rfl).mono ?_
    rintro e w' ⟨rfl, F', h1, h2⟩
    exact ⟨by simp [hx, idx_none hx], F', by rw [insU_new hx]; exact h1, h2⟩
theorem newShelf_any (w : World) : Calls Tryz.prog 70 #[] w fun e w' => ∃ s F, e = .returned (.pointer (some ⟨s, 0, none⟩)) ∧ Sh w' s [] F ∧ (∀ i, F i → w.heap.size ≤ i ∧ i < w'.heap.size) ∧ Kp [] w w' := by
  have hmm := @run_makeMap Tryz.prog
  go_enter Tryz.func70, Tryz.ntmps70
  go_wp2_with fail
  go_ret
  have K1 : Kp [] w (w.alloc (.map #[] 0)) := (Kp.refl [] w).alloc _
  have K2 : Kp [] (w.alloc (.map #[] 0)) ((w.alloc (.map #[] 0)).alloc (.cells #[.slice none 0 0, .map (some w.heap.size)] 119)) := (Kp.refl [] _).alloc _
  refine ⟨w.heap.size + 1, fun i => i = w.heap.size ∨ i = w.heap.size + 1, rfl, ⟨⟨.slice none 0 0, w.heap.size, ?_, World.ownsRow_nil _ _ _ _, ?_, .inr rfl, .inl rfl, (fun k hk => by cases hk), by omega⟩, by simp, by simp, by simp⟩, fun i hi => ?_, K1.trans K2⟩
  · have := heap_alloc_new (w.alloc (.map #[] 0)) (.cells #[.slice none 0 0, .map (some w.heap.size)] 119)
    simpa [Sc] using this
  · refine Mp.kept (S := []) ⟨.map [], World.ownsMap_made w Tryz.prog 9 _, fun x hx => ⟨by simp [Go.Maps.has], fun h => by cases h⟩⟩ K2 (by simp)
  · simp
    omega
end
end Go.Proofs.YteabdojjllfcpaaGreat

/-
  The contracts of package disk's small functions: count, told, keep, New, Size, Synced, Down, Arm, Grow, Bytes.
-/
namespace Go.Proofs.YteabdojjllfcpaaGreat
open Go.RowKit
open Go.Proofs
/-- the program's disk. -/
abbrev DskP := Dsk 108
set_option maxHeartbeats 1000000 in
theorem count_any (p : Nat) (v : Value) (d : Dk) (base : Nat) (w : World) (h : DskP w base p v d) (h0 : 0 ≤ d.arm) :
    Calls Tryz.prog 77 #[.pointer (some ⟨p, 3, none⟩)] w fun e w' => e = .returned (.tuple #[]) ∧ DskP w' base p v d.cnt ∧ Kp [p] w w' := by
  have hc3 := h.here.c3
  have hf := fun i => h.here.f i
  have hhi := h.fit.hi
  obtain ⟨a, ha⟩ : ∃ a, a = d.arm := ⟨_, rfl⟩
  rw [← ha] at hc3 hhi
  by_cases hz : a = 0
  · have hzd : (a == 0) = true := by simp [hz]
    have FIN : Hid (DskP w base p v d.cnt) := by
      have : d.cnt = d := by unfold Dk.cnt; rw [if_pos (by omega)]
      rw [this]; exact h
    clear hf h ha hz
    go_enter Tryz.func77, Tryz.ntmps77
    go_wp2_with fail
    refine bodyPost_ret (results_none rfl _ _ _) rfl ?_
    exact ⟨rfl, FIN.out, Kp.refl _ _⟩
  · have hzd : (a == 0) = false := by simp [hz]
    have f3 := hf 3
    obtain ⟨w1, hw1⟩ : ∃ w1, w1 = w.setCell ⟨p, 3, none⟩ (.int .i64 (a - 1)) := ⟨_, rfl⟩
    have h1 : Fv 108 w1 p v (.int .i64 d.syn) (.int .i64 d.lim) (.int .i64 (a - 1)) (.bool d.down) := by rw [hw1]; exact h.here.s3 _
    have c13 := h1.c3
    have c14 := h1.c4
    have f14 := h1.f 4
    have hwr : wrap64 (a - 1) = a - 1 := by unfold wrap64; omega
    obtain ⟨b, hb⟩ : ∃ b, b = (a - 1 == 0) := ⟨_, rfl⟩
    have FIN : Hid (DskP (w1.setCell ⟨p, 4, none⟩ (.bool b)) base p v d.cnt ∧ Kp [p] w (w1.setCell ⟨p, 4, none⟩ (.bool b))) := by
      have K : Kp [p] w (w1.setCell ⟨p, 4, none⟩ (.bool b)) := by
        rw [hw1]; exact (kp_set w p 3 _).trans (kp_set _ p 4 _)
      have hcn : d.cnt = { d with arm := a - 1, down := b } := by
        unfold Dk.cnt
        have e : (a - 1 == 0) = decide (a - 1 = 0) := by rw [Bool.eq_iff_iff]; simp
        rw [if_neg (by omega), hb, e, ha]
      have hft := Dk.cnt_fit h.fit h0
      rw [hcn] at hft ⊢
      exact ⟨h.poke K (h1.s4 _) rfl hft.1, K⟩
    rw [hw1] at c13 c14 f14 FIN
    clear hf h h1 ha hw1 hz
    go_enter Tryz.func77, Tryz.ntmps77
    go_wp2_with fail
    rw [← hb]
    go_end0
    exact ⟨rfl, FIN.out⟩
theorem told_any (p : Nat) (v : Value) (d : Dk) (base : Nat) (w : World) (h : DskP w base p v d) :
    Calls Tryz.prog 78 #[.pointer (some ⟨p, 3, none⟩)] w fun e w' => e = .returned (.int .i64 (if d.down then 13 else 0)) ∧ w' = w := by
  have hc4 := h.here.c4
  cases hd : d.down
  · rw [hd] at hc4
    clear h hd
    go_enter Tryz.func78, Tryz.ntmps78
    go_wp2_with fail
    go_ret
    exact ⟨rfl, rfl⟩
  · rw [hd] at hc4
    clear h hd
    go_enter Tryz.func78, Tryz.ntmps78
    go_wp2_with fail
    go_ret
    exact ⟨rfl, rfl⟩
theorem size_any (p : Nat) (v : Value) (d : Dk) (base : Nat) (w : World) (h : DskP w base p v d) :
    Calls Tryz.prog 68 #[.pointer (some ⟨p, 0, none⟩)] w fun e w' => e = .returned (.int .i64 (d.bs.length : Nat)) ∧ w' = w := by
  have hc := h.here.c0
  obtain ⟨ao, c, rfl⟩ := h.shape
  generalize d.bs.length = n at *
  clear h
  go_enter Tryz.func68, Tryz.ntmps68
  go_wp2_with fail
  go_ret
  exact ⟨rfl, rfl⟩
/-- A disk as it begins. -/
def dk0 (n : Int) : Dk := ⟨[], 0, n, 0, false⟩
theorem dk0_fit {n : Int} (h0 : 0 ≤ n) (h1 : n ≤ 1048576) : (dk0 n).Fit := ⟨⟨Nat.le_refl _, h0, h1⟩, by simp [dk0], by simp [dk0], fun _ => rfl, fun b hb => by cases hb⟩
theorem new_any (n : Int) (w : World) (h0 : 0 ≤ n) (h1 : n ≤ 1048576) :
    Calls Tryz.prog 36 #[.int .i64 n] w fun e w' => ∃ p, e = .returned (.tuple #[.pointer (some ⟨p, 0, none⟩), .int .i64 0]) ∧ (∀ base, DskP w' base p (.slice none 0 0) (dk0 n)) ∧ Kp [] w w' ∧ w.heap.size ≤ p := by
  have HF := hide (dk0_fit h0 h1)
  go_enter Tryz.func36, Tryz.ntmps36
  go_wp2_with fail
  go_ret2
  exact ⟨w.heap.size, rfl, fun base => ⟨heap_alloc_new w _, ⟨rfl, .inl ⟨rfl, rfl⟩⟩, HF.out, by decide⟩, (Kp.refl [] w).alloc _, Nat.le_refl _⟩
end Go.Proofs.YteabdojjllfcpaaGreat

/-
  The contracts of package disk: Bytes, keep, Append, Sync, Cut, Crash.
-/
namespace Go.Proofs.YteabdojjllfcpaaGreat
open Go.RowKit
open Go.Proofs
set_option maxRecDepth 100000 in
set_option maxHeartbeats 1000000 in
theorem dclone_any (v : Value) (bs : List Int) (w : World) (hS : Sl w v bs) (hl : bs.length ≤ 100000000) :
    Calls Tryz.prog 35 #[v] w fun e w' => ∃ ao m c, e = .returned (.slice ao m c) ∧ Row w' w.heap.size (.slice ao m c) bs ∧ Kp [] w w' := by
  have ob := (Kp.refl [] w).alloc (.cells #[] 5)
  have HK := hide ob
  have HSw := hide (hS.kept ob (by simp))
  have HL := hide hl
  obtain ⟨ax, cx, rfl, h1, h2, h3, -⟩ := hS
  obtain ⟨nx, hnx⟩ : ∃ nx, nx = bs.length := ⟨_, rfl⟩
  cases ax with
  | none =>
    have h0 := h3 rfl
    obtain rfl : bs = [] := List.eq_nil_of_length_eq_zero (by omega)
    subst h0
    simp only [List.length_nil]
    have heq : ∀ w, (binOp .eql 28 (.slice none 0 0) (.slice none 0 0)).run Tryz.prog w = .ok (.bool true) w := fun _ => rfl
    clear ob HSw h1 h2 h3 hnx hl
    go_enter Tryz.func35, Tryz.ntmps35
    go_wp2_with fail
    go_ret
    exact ⟨none, 0, 0, rfl, ⟨rfl, .inl ⟨rfl, rfl⟩⟩, Kp.refl _ _⟩
  | some ad =>
    rw [← hnx] at HSw ⊢
    have hR0 : Hid (Row (w.alloc (.cells #[] 5)) w.heap.size (.slice (some ⟨w.heap.size, 0, none⟩) 0 0) []) := row_of_block (bs := []) (Nat.le_refl _) (heap_alloc_new w _) rfl (by simp [maxLen])
    have heq : ∀ w, (binOp .eql 28 (.slice (some ad) nx cx) (.slice none 0 0)).run Tryz.prog w = .ok (.bool false) w := fun _ => rfl
    clear ob hl hnx h1 h2 h3
    go_enter Tryz.func35, Tryz.ntmps35
    go_wp2_with (at_builtin; refine wpList_append_row rfl (.tmp 5) (.tmp 6) rfl w.heap.size _ _ rfl (unhide hR0) _ bs rfl (unhide HSw) (by have := unhide HL; simp; omega) (by simp) ?_; intro ao2 m2 c2 w2 r2 s2)
    go_ret
    exact ⟨ao2, m2, c2, rfl, by simpa using r2, (unhide hR0).step (unhide HK) s2⟩
theorem dbytes_any (p : Nat) (v : Value) (d : Dk) (base : Nat) (w : World) (h : DskP w base p v d) :
    Calls Tryz.prog 67 #[.pointer (some ⟨p, 0, none⟩)] w fun e w' => ∃ ao m c, e = .returned (.slice ao m c) ∧ Row w' w.heap.size (.slice ao m c) d.bs ∧ Kp [] w w' := by
  have hc := h.here.c0
  have HC := hide (dclone_any v d.bs w h.sl (by have h1 := h.fit.ok.fits; have h2 := h.fit.ok.lim; omega))
  obtain ⟨ao, c, rfl⟩ := h.shape
  obtain ⟨n, hn⟩ : ∃ n, n = d.bs.length := ⟨_, rfl⟩
  rw [← hn] at hc HC
  clear h hn
  go_enter Tryz.func67, Tryz.ntmps67
  go_wp2_with (go_at_call 35; refine HC.out.mono ?_; rintro e w1 ⟨ao1, m1, c1, rfl, r1, k1⟩)
  go_ret
  exact ⟨ao1, m1, c1, rfl, r1, k1⟩
theorem Dk.Fit.kept {d : Dk} (h : d.Fit) (n : Nat) (hn : n ≤ d.bs.length) : Dk.Fit { d with bs := d.bs.take n, syn := n } :=
  ⟨⟨by simp only [List.length_take]; omega, by have := h.ok.fits; simp only [List.length_take]; omega, h.ok.lim⟩, h.lo, h.hi, h.dn, fun b hb => h.bytes b (List.mem_of_mem_take hb)⟩
theorem own_slice (ao : Option Addr) (n m c c' : Nat) : (Value.slice ao n c).ownBlock = (Value.slice ao m c').ownBlock := by cases ao <;> rfl
/-- other bytes at the same place. -/
theorem Dsk.cutAt {T : TypeId} {w w' : World} {base p m c : Nat} {ao : Option Addr} {d : Dk} (h : Dsk T w base p (.slice ao m c) d) (n : Nat) (hn : n ≤ d.bs.length) (k : Kp [p] w w') (d' : Dk) (hb : d'.bs = d.bs.take n) (hf : d'.Fit)
    (he : Fv T w' p (.slice ao n c) (.int .i64 d'.syn) (.int .i64 d'.lim) (.int .i64 d'.arm) (.bool d'.down)) : Dsk T w' base p (.slice ao n c) d' ∧ DSt p w (.slice ao m c) w' (.slice ao n c) := by
  refine ⟨⟨he, by rw [hb]; exact (h.row.take n hn).kept k (fun i hi hm => h.apart (by simp at hm; rw [← hm, own_slice ao m n c c]; exact hi)), hf, h.typ⟩, k.mono (fun i hi => mem_dfp.2 (.inl (by simpa using hi))), fun i hi => .inl (by rw [own_slice ao m n c c]; exact hi)⟩
set_option maxHeartbeats 1000000 in
theorem keep_any (p : Nat) (ao : Option Addr) (m c : Nat) (d : Dk) (n : Nat) (base : Nat) (w : World) (h : DskP w base p (.slice ao m c) d) (hn : n ≤ d.bs.length) :
    Calls Tryz.prog 62 #[.pointer (some ⟨p, 0, none⟩), .int .i64 n] w fun e w' => e = .returned (.tuple #[]) ∧ DskP w' base p (.slice ao n c) { d with bs := d.bs.take n, syn := n } ∧ DSt p w (.slice ao m c) w' (.slice ao n c) := by
  have hc0 := h.here.c0
  have f0 := h.here.f 0
  have hm := h.row.len
  obtain ⟨r1, r2⟩ := h.row.room
  have hrun : ∀ w, (Instr.sliceAt 28 (.slice ao m c) none (some (.int .i64 (n : Nat))) none).run Tryz.prog w = .ok (.slice ao n c) w := fun w => run_first ao m c n w (by omega) r2
  obtain ⟨w1, hw1⟩ : ∃ w1, w1 = w.setCell ⟨p, 0, none⟩ (.slice ao n c) := ⟨_, rfl⟩
  have h1 := h.here.s0 (.slice ao n c)
  rw [← hw1] at h1
  have c1 := h1.c1
  have f1 := h1.f 1
  have FIN : Hid (DskP (w1.setCell ⟨p, 1, none⟩ (.int .i64 n)) base p (.slice ao n c) { d with bs := d.bs.take n, syn := n } ∧ DSt p w (.slice ao m c) (w1.setCell ⟨p, 1, none⟩ (.int .i64 n)) (.slice ao n c)) :=
    h.cutAt n hn (by rw [hw1]; exact (kp_set w p 0 _).trans (kp_set _ p 1 _)) _ rfl (h.fit.kept n hn) (h1.s1 _)
  rw [hw1] at c1 f1 FIN
  clear h h1 hw1 r1 r2 hm
  go_enter Tryz.func62, Tryz.ntmps62
  go_wp2_with fail
  go_end0
  exact ⟨rfl, FIN.out⟩
/-- more bytes behind. -/
theorem Dsk.more {T : TypeId} {w w1 : World} {base p : Nat} {v v' : Value} {d : Dk} {b : List Int} (h : Dsk T w base p v d) (r : Row w1 base v' (d.bs ++ b)) (s : RStep w v w1 v') (hf : Dk.Fit { d with bs := d.bs ++ b }) :
    Dsk T (w1.setCell ⟨p, 0, none⟩ v') base p v' { d with bs := d.bs ++ b } ∧ DSt p w v (w1.setCell ⟨p, 0, none⟩ v') v' ∧ w1.cell? ⟨p, 0, none⟩ = some v ∧ w1.frozen? ⟨p, 0, none⟩ = false := by
  have h1 : Fv T w1 p v (.int .i64 d.syn) (.int .i64 d.lim) (.int .i64 d.arm) (.bool d.down) := h.here.kept s.1 (by simpa [Option.mem_toList] using h.apart)
  have ne := apart_of h1 r h.typ
  refine ⟨⟨h1.s0 _, r.kept (kp_set w1 p 0 v') (fun i hi hm => ne (by simp at hm; rw [← hm]; exact hi)), hf, h.typ⟩, ⟨?_, s.2⟩, h1.c0, h1.f 0⟩
  exact (s.1.mono (fun i hi => mem_dfp.2 (.inr (by simpa [Option.mem_toList] using hi)))).then (kp_set w1 p 0 v') (fun i hi => .inl (mem_dfp.2 (.inl (by simpa using hi))))
theorem told_er (p : Nat) (v : Value) (d : Dk) (base : Nat) (w : World) (h : DskP w base p v d) (er : Int) (he : er = if d.down then 13 else 0) :
    Calls Tryz.prog 78 #[.pointer (some ⟨p, 3, none⟩)] w fun e w' => e = .returned (.int .i64 er) ∧ w' = w := by rw [he]; exact told_any p v d base w h
theorem Dk.Fit.apps {d : Dk} (h : d.Fit) {b : List Int} (hB : Bs b) (hl : ((d.bs.length + b.length : Nat) : Int) ≤ d.lim) : Dk.Fit { d with bs := d.bs ++ b } :=
  ⟨⟨by have := h.ok.syn; simp only [List.length_append]; omega, by simp only [List.length_append]; exact hl, h.ok.lim⟩, h.lo, h.hi, h.dn, fun x hx => (List.mem_append.1 hx).elim (h.bytes x) (hB x)⟩
set_option maxHeartbeats 2000000 in
theorem dappend_any (p : Nat) (v : Value) (d : Dk) (vb : Value) (b : List Int) (base : Nat) (w : World) (h : DskP w base p v d) (h0 : 0 ≤ d.arm) (hS : Sl w vb b) (hB : Bs b) (hb : base ≤ w.heap.size) :
    Calls Tryz.prog 42 #[.pointer (some ⟨p, 0, none⟩), vb] w fun e w' => e = .returned (.int .i64 (if (d.app b).1 then 0 else 13)) ∧ ∃ v', DskP w' base p v' (d.app b).2 ∧ DSt p w v w' v' := by
  have hc4 := h.here.c4
  cases hd : d.down
  · rw [hd] at hc4
    have HC := hide (count_any p v d base w h h0)
    have HS := hide (fun w' (k : Kp [p] w w') => h.sloff hS k)
    obtain ⟨av, cv, ev⟩ := h.shape
    obtain ⟨ab, cb, rfl, hb1, hb2, _⟩ := hS
    unfold maxLen at hb2
    have hap := Dk.app_cnt h.fit h0 hd b
    obtain ⟨e1, e2, e3⟩ := d.cnt_bs
    obtain ⟨d1, hd1⟩ : ∃ d1, d1 = d.cnt := ⟨_, rfl⟩
    rw [← hd1] at HC e1 e2 e3 hap
    rw [← e1, ← e3] at hap
    rw [← e1] at ev
    obtain ⟨n, hn⟩ : ∃ n, n = d1.bs.length := ⟨_, rfl⟩
    obtain ⟨m, hm⟩ : ∃ m, m = b.length := ⟨_, rfl⟩
    obtain ⟨li, hli⟩ : ∃ li, li = d1.lim := ⟨_, rfl⟩
    rw [← hn] at ev
    subst ev
    rw [← hm, ← hn, ← hli] at hap
    rw [← hm] at hb1 HS ⊢
    have hb3 : (m : Int) ≤ 9223372036854775807 := by omega
    have HN : Hid (¬ li < ((n + m : Nat) : Int) → ((d1.bs.length + b.length : Nat) : Int) ≤ d1.lim) := fun h => by show _ ≤ _; omega
    have Hn := hide hn
    have Hli := hide hli
    clear hn hm hli
    by_cases hl : li < ((n + m : Nat) : Int)
    · rw [if_pos hl] at hap
      rw [hap]
      have hl' : (m : Int) > li - (n : Int) := by omega
      clear h hd hd1 e1 e2 e3 HS hap
      go_enter Tryz.func42, Tryz.ntmps42
      go_wp2_with (go_at_call 77; refine HC.out.mono ?_; rintro e w1 ⟨rfl, D1, k1⟩; clear HC; have x0 := D1.here.c0; have x2 := D1.here.c2; have ok1 := D1.fit.ok.fits; have ok2 := D1.fit.ok.lim; rw [← Hli.out] at x2 ok1 ok2; rw [← Hn.out] at ok1; have HD := hide D1; clear D1)
      refine region_read Tryz.mixed (by kernel_rfl) ?_
      repeat (first | go_big_quiet_skip | (go_big_quiet_want; go_big_quiet_op; go_big_quiet_on))
      refine wpQuiet_nil ?_
      go_wp2_with fail
      go_ret
      exact ⟨rfl, _, HD.out.keptN (kp_drew _), (DSt.one (.slice av n cv) k1).trans (DSt.mid (.slice av n cv) (kp_drew _))⟩
    · rw [if_neg hl] at hap
      obtain ⟨er, her⟩ : ∃ er : Int, er = if d1.down then 13 else 0 := ⟨_, rfl⟩
      have hg : (if (d.app b).1 = true then (0 : Int) else 13) = er := by rw [hap, her]; cases d1.down <;> rfl
      rw [hg, hap]
      have HE := hide her
      clear hg her
      have hl' : ¬ (m : Int) > li - (n : Int) := by omega
      have HM := hide (HN.out hl)
      clear HN
      have HB := hide hB
      clear h hd hd1 e1 e2 e3 hap
      go_enter Tryz.func42, Tryz.ntmps42
      go_wp2_with (go_at_call 77; refine HC.out.mono ?_; rintro e w1 ⟨rfl, D1, k1⟩; clear HC; have x0 := D1.here.c0; have x2 := D1.here.c2; have ok1 := D1.fit.ok.fits; have ok2 := D1.fit.ok.lim; rw [← Hli.out] at x2 ok1 ok2; rw [← Hn.out] at ok1; have HD := hide D1; clear D1; have HS1 := hide (HS.out _ k1))
      refine region_read Tryz.mixed (by kernel_rfl) ?_
      repeat (first | go_big_quiet_skip | (go_big_quiet_want; go_big_quiet_op; go_big_quiet_on))
      refine wpQuiet_nil ?_
      have D2 := hide (HD.out.keptN (kp_drew _))
      have S2 := hide (HS1.out.kept (kp_drew _) (by simp))
      have y0 := D2.out.here.c0
      have sz : Hid (base ≤ w1.drew.heap.size) := by have := k1.size; have := (kp_drew w1).size; show _ ≤ _; omega
      have T2 := hide ((DSt.one (.slice av n cv) k1).trans (DSt.mid _ (kp_drew _)))
      generalize w1.drew = w2 at *
      go_wp2_with (first
        | (at_builtin; refine wpList_append_row rfl (.tmp 31) (.tmp 32) rfl base _ _ rfl D2.out.row _ b rfl S2.out (by have := HM.out; have := D2.out.fit.ok.lim; omega) sz.out ?_; intro ao3 m3 c3 w3 r3 s3; obtain ⟨D3, T3, z0, zf⟩ := D2.out.more r3 s3 (D2.out.fit.apps HB.out HM.out); have HT := hide (told_er p _ _ base _ D3 er HE.out); have HD3 := hide D3; have HT3 := hide T3; clear D3 T3 r3 s3)
        | (go_at_call 78; refine HT.out.mono ?_; rintro e w4 ⟨rfl, hw⟩; subst w4))
      go_ret
      exact ⟨rfl, _, HD3.out, T2.out.trans HT3.out⟩
  · rw [hd] at hc4
    rw [Dk.app_down hd]
    have HD := hide h
    clear h hd h0 hB
    go_enter Tryz.func42, Tryz.ntmps42
    go_wp2_with fail
    go_ret
    exact ⟨rfl, _, HD.out, DSt.refl _ _ _⟩
theorem Dk.Fit.syncs {d : Dk} (h : d.Fit) : Dk.Fit { d with syn := d.bs.length } := ⟨⟨Nat.le_refl _, h.ok.fits, h.ok.lim⟩, h.lo, h.hi, h.dn, h.bytes⟩
set_option maxHeartbeats 2000000 in
theorem dsync_any (p : Nat) (v : Value) (d : Dk) (base : Nat) (w : World) (h : DskP w base p v d) (h0 : 0 ≤ d.arm) :
    Calls Tryz.prog 43 #[.pointer (some ⟨p, 0, none⟩)] w fun e w' => e = .returned (.int .i64 (if d.sync.1 then 0 else 13)) ∧ DskP w' base p v d.sync.2 ∧ DSt p w v w' v := by
  have HC := hide (count_any p v d base w h h0)
  have hap := Dk.sync_cnt h.fit h0
  obtain ⟨av, cv, ev⟩ := h.shape
  obtain ⟨e1, e2, e3⟩ := d.cnt_bs
  obtain ⟨d1, hd1⟩ : ∃ d1, d1 = d.cnt := ⟨_, rfl⟩
  rw [← hd1] at HC e1 hap
  rw [← e1] at hap ev
  obtain ⟨n, hn⟩ : ∃ n, n = d1.bs.length := ⟨_, rfl⟩
  rw [← hn] at ev hap
  subst ev
  have Hn := hide hn
  clear hn h hd1 e1 e2 e3
  cases hd : d1.down
  · rw [hd, if_neg (by decide)] at hap
    rw [hap]
    have HD := hide hd
    clear hap hd
    go_enter Tryz.func43, Tryz.ntmps43
    go_wp2_with (first
      | (go_at_call 77; refine HC.out.mono ?_; rintro e w1 ⟨rfl, D1, k1⟩; clear HC; have x0 := D1.here.c0; have x1 := D1.here.c1; have x4 := D1.here.c4; rw [HD.out] at x4; have f1 := D1.here.f 1; have D2 := D1.poke (kp_set w1 p 1 (.int .i64 n)) (d' := { d1 with syn := n }) (D1.here.s1 _) rfl (by rw [Hn.out]; exact D1.fit.syncs); have HT := hide (told_er p _ _ base _ D2 0 (by show _ = if d1.down then _ else _; rw [HD.out]; rfl)); have HD2 := hide D2; clear D1 D2)
      | (go_at_call 78; refine HT.out.mono ?_; rintro e w4 ⟨rfl, hw⟩; subst w4))
    go_ret
    exact ⟨rfl, HD2.out, (DSt.one _ k1).trans (DSt.one _ (kp_set _ _ _ _))⟩
  · rw [hd, if_pos rfl] at hap
    rw [hap]
    have HD := hide hd
    clear hap hd
    go_enter Tryz.func43, Tryz.ntmps43
    go_wp2_with (first
      | (go_at_call 77; refine HC.out.mono ?_; rintro e w1 ⟨rfl, D1, k1⟩; clear HC; have x4 := D1.here.c4; rw [HD.out] at x4; have HT := hide (told_er p _ _ base _ D1 13 (by rw [HD.out]; rfl)); have HD2 := hide D1; clear D1)
      | (go_at_call 78; refine HT.out.mono ?_; rintro e w4 ⟨rfl, hw⟩; subst w4))
    go_ret
    exact ⟨rfl, HD2.out, DSt.one _ k1⟩
set_option maxHeartbeats 2000000 in
theorem dcut_any (p : Nat) (v : Value) (d : Dk) (n : Int) (base : Nat) (w : World) (h : DskP w base p v d) (h0 : 0 ≤ d.arm) :
    Calls Tryz.prog 69 #[.pointer (some ⟨p, 0, none⟩), .int .i64 n] w fun e w' => e = .returned (.int .i64 (d.cut n).1) ∧ ∃ v', DskP w' base p v' (d.cut n).2 ∧ DSt p w v w' v' := by
  have hc4 := h.here.c4
  have hc0 := h.here.c0
  obtain ⟨av, cv, ev⟩ := h.shape
  obtain ⟨k, hk⟩ : ∃ k, k = d.bs.length := ⟨_, rfl⟩
  rw [← hk] at ev
  subst ev
  by_cases hbad : d.down = false ∧ (n < 0 ∨ (k : Int) < n)
  · obtain ⟨hd, hn⟩ := hbad
    rw [Dk.cut_bad hd n (by omega)]
    rw [hd] at hc4
    have HD := hide h
    clear h hk
    by_cases h1 : n < 0
    · go_enter Tryz.func69, Tryz.ntmps69
      go_wp2_with fail
      go_ret
      exact ⟨rfl, _, HD.out, DSt.refl _ _ _⟩
    · have h2 : (k : Int) < n := by omega
      go_enter Tryz.func69, Tryz.ntmps69
      go_wp2_with fail
      go_ret
      exact ⟨rfl, _, HD.out, DSt.refl _ _ _⟩
  · have hgood : d.down = true ∨ (0 ≤ n ∧ n ≤ k) := by
      cases hd : d.down
      · right
        by_cases h1 : n < 0
        · exact absurd ⟨hd, .inl h1⟩ hbad
        · by_cases h2 : (k : Int) < n
          · exact absurd ⟨hd, .inr h2⟩ hbad
          · omega
      · left; rfl
    clear hbad
    have HC := hide (count_any p _ d base w h h0)
    have hap := Dk.cut_cnt h.fit h0 n (by rw [← hk]; exact hgood)
    obtain ⟨e1, e2, e3⟩ := d.cnt_bs
    have hdd : d.down = true → d.cnt.down = true := fun hd => by rw [Dk.cnt_down h.fit hd]; exact hd
    obtain ⟨d1, hd1⟩ : ∃ d1, d1 = d.cnt := ⟨_, rfl⟩
    rw [← hd1] at HC e1 hap hdd
    rw [← e1] at hap
    have Hk : Hid (k = d1.bs.length) := by show _ = _; rw [e1]; exact hk
    clear h hd1 e1 e2 e3 hk
    cases hd : d1.down
    · rw [hd, if_neg (by decide)] at hap
      rw [hap]
      have hdf : d.down = false := by
        cases hx : d.down
        · rfl
        · rw [hdd hx] at hd; cases hd
      rw [hdf] at hc4
      have hn := hgood.resolve_left (by rw [hdf]; decide)
      obtain ⟨hn0, hn1⟩ := hn
      obtain ⟨j, rfl⟩ := Int.eq_ofNat_of_zero_le hn0
      rw [Int.toNat_natCast]
      have hj : Hid (j ≤ d1.bs.length) := by have := Hk.out; show _ ≤ _; omega
      have HD := hide hd
      have g1 : ¬ (j : Int) < 0 := by omega
      have g2 : ¬ (k : Int) < (j : Int) := by omega
      clear hap hd hdd hdf hgood hn0
      go_enter Tryz.func69, Tryz.ntmps69
      go_wp2_with (first
        | (go_at_call 77; refine HC.out.mono ?_; rintro e w1 ⟨rfl, D1, k1⟩; clear HC; have x4 := D1.here.c4; rw [HD.out] at x4; have HK := hide (keep_any p av k cv d1 j base w1 D1 hj.out); clear D1)
        | (go_at_call 62; refine HK.out.mono ?_; rintro e w2 ⟨rfl, D2, T2⟩; clear HK; have HT := hide (told_er p _ _ base _ D2 0 (by show _ = if d1.down then _ else _; rw [HD.out]; rfl)); have HD2 := hide D2; have HT2 := hide T2; clear D2 T2)
        | (go_at_call 78; refine HT.out.mono ?_; rintro e w4 ⟨rfl, hw⟩; subst w4))
      go_ret
      exact ⟨rfl, _, HD2.out, (DSt.one _ k1).trans HT2.out⟩
    · rw [hd, if_pos rfl] at hap
      rw [hap]
      have HD := hide hd
      clear hap hd hdd
      cases hdf : d.down
      · rw [hdf] at hc4
        obtain ⟨hn0, hn1⟩ := hgood.resolve_left (by rw [hdf]; decide)
        have g1 : ¬ n < 0 := by omega
        have g2 : ¬ (k : Int) < n := by omega
        clear hgood hdf
        go_enter Tryz.func69, Tryz.ntmps69
        go_wp2_with (first
          | (go_at_call 77; refine HC.out.mono ?_; rintro e w1 ⟨rfl, D1, k1⟩; clear HC; have x4 := D1.here.c4; rw [HD.out] at x4; have HT := hide (told_er p _ _ base _ D1 13 (by rw [HD.out]; rfl)); have HD2 := hide D1; clear D1)
          | (go_at_call 78; refine HT.out.mono ?_; rintro e w4 ⟨rfl, hw⟩; subst w4))
        go_ret
        exact ⟨rfl, _, HD2.out, DSt.one _ k1⟩
      · rw [hdf] at hc4
        clear hgood hdf
        go_enter Tryz.func69, Tryz.ntmps69
        go_wp2_with (first
          | (go_at_call 77; refine HC.out.mono ?_; rintro e w1 ⟨rfl, D1, k1⟩; clear HC; have x4 := D1.here.c4; rw [HD.out] at x4; have HT := hide (told_er p _ _ base _ D1 13 (by rw [HD.out]; rfl)); have HD2 := hide D1; clear D1)
          | (go_at_call 78; refine HT.out.mono ?_; rintro e w4 ⟨rfl, hw⟩; subst w4))
        go_ret
        exact ⟨rfl, _, HD2.out, DSt.one _ k1⟩
end Go.Proofs.YteabdojjllfcpaaGreat

/-
  A new disk and its steps, as the law package takes them; Cut of the law package by its value; known.
-/
namespace Go.Proofs.YteabdojjllfcpaaGreat
open Go.RowKit
open Go.Proofs
theorem Bs.takes {bs : List Int} (h : Bs bs) (n : Nat) : Bs (bs.take n) := fun b hb => h b (List.mem_of_mem_take hb)
namespace Dk
theorem app_arm {d : Dk} (h : d.Fit) (h0 : 0 ≤ d.arm) (b : List Int) : 0 ≤ (d.app b).2.arm := by
  have h1 := (cnt_fit h h0).2
  unfold app
  rw [cal_cnt h h0]
  split <;> exact h1
theorem sync_arm {d : Dk} (h : d.Fit) (h0 : 0 ≤ d.arm) : 0 ≤ d.sync.2.arm := by
  have h1 := (cnt_fit h h0).2
  unfold sync
  rw [cal_cnt h h0]
  split <;> exact h1
theorem cut_arm {d : Dk} (h : d.Fit) (h0 : 0 ≤ d.arm) (n : Int) : 0 ≤ (d.cut n).2.arm := by
  have h1 := (cnt_fit h h0).2
  unfold cut
  rw [cal_cnt h h0]
  split
  · exact h0
  · split
    · exact h0
    · split <;> exact h1
end Dk
/-- A disk made since w0. -/
structure Nw (w0 w : World) (p : Nat) (v : Value) (d : Dk) : Prop where
  dk : DskP w w0.heap.size p v d
  new : w0.heap.size ≤ p
  kp : Kp [] w0 w
  arm : 0 ≤ d.arm
section
variable {w0 w w' : World} {p : Nat} {v v' : Value} {d d' : Dk}
theorem Nw.news (h : Nw w0 w p v d) : ∀ i ∈ dfp p v, w0.heap.size ≤ i := fun i hi => by
  rcases h.dk.own i hi with rfl | h1
  · exact h.new
  · exact h1
theorem Nw.stepK (h : Nw w0 w p v d) (t : DSt p w v w' v') : Kp [] w0 w' := h.kp.then t.1 (fun i hi => .inr (h.news i hi))
theorem Nw.step (h : Nw w0 w p v d) (g : DskP w' w0.heap.size p v' d') (t : DSt p w v w' v') (ha : 0 ≤ d'.arm) : Nw w0 w' p v' d' := ⟨g, h.new, h.stepK t, ha⟩
theorem Nw.on (h : Nw w0 w p v d) (k : Kp [] w w') : Nw w0 w' p v d := ⟨h.dk.keptN k, h.new, h.kp.trans k, h.arm⟩
theorem nw_new (n : Int) (w : World) (h0 : 0 ≤ n) (h1 : n ≤ 1048576) : Calls Tryz.prog 36 #[.int .i64 n] w fun e w' => ∃ p, e = .returned (.tuple #[.pointer (some ⟨p, 0, none⟩), .int .i64 0]) ∧ Nw w w' p (.slice none 0 0) (dk0 n) := by
  refine (new_any n w h0 h1).mono ?_
  rintro e w' ⟨p, rfl, D, k, hp⟩
  exact ⟨p, rfl, D _, hp, k, Int.le_refl 0⟩
theorem nw_append (h : Nw w0 w p v d) {vb : Value} {b : List Int} (hS : Sl w vb b) (hB : Bs b) (er : Bool) (he : d.app b = (er, d')) (en : Int) (hn : en = if er then 0 else 13) : Calls Tryz.prog 42 #[.pointer (some ⟨p, 0, none⟩), vb] w fun e w' => e = .returned (.int .i64 en) ∧ ∃ v', Nw w0 w' p v' d' ∧ DSt p w v w' v' := by
  refine (dappend_any p v d vb b w0.heap.size w h.dk h.arm hS hB h.kp.size).mono ?_
  rintro e w' ⟨rfl, v', D, T⟩
  have ha := Dk.app_arm h.dk.fit h.arm b
  rw [he] at D ha
  exact ⟨by rw [hn, he], v', h.step D T ha, T⟩
theorem nw_sync (h : Nw w0 w p v d) (er : Bool) (he : d.sync = (er, d')) (en : Int) (hn : en = if er then 0 else 13) : Calls Tryz.prog 43 #[.pointer (some ⟨p, 0, none⟩)] w fun e w' => e = .returned (.int .i64 en) ∧ Nw w0 w' p v d' ∧ DSt p w v w' v := by
  refine (dsync_any p v d w0.heap.size w h.dk h.arm).mono ?_
  rintro e w' ⟨rfl, D, T⟩
  have ha := Dk.sync_arm h.dk.fit h.arm
  rw [he] at D ha
  exact ⟨by rw [hn, he], h.step D T ha, T⟩
theorem nw_cut (h : Nw w0 w p v d) (n en : Int) (he : d.cut n = (en, d')) : Calls Tryz.prog 69 #[.pointer (some ⟨p, 0, none⟩), .int .i64 n] w fun e w' => e = .returned (.int .i64 en) ∧ ∃ v', Nw w0 w' p v' d' ∧ DSt p w v w' v' := by
  refine (dcut_any p v d n w0.heap.size w h.dk h.arm).mono ?_
  rintro e w' ⟨rfl, v', D, T⟩
  have ha := Dk.cut_arm h.dk.fit h.arm n
  rw [he] at D ha
  exact ⟨by rw [he], v', h.step D T ha, T⟩
theorem nw_bytes (h : Nw w0 w p v d) : Calls Tryz.prog 67 #[.pointer (some ⟨p, 0, none⟩)] w fun e w' => ∃ ao m c, e = .returned (.slice ao m c) ∧ Row w' w.heap.size (.slice ao m c) d.bs ∧ Nw w0 w' p v d ∧ Kp [] w w' ∧ (convert 28 9 (.slice ao m c)).run Tryz.prog w' = .ok (.string (strOfNums d.bs)) w' := by
  refine (dbytes_any p v d w0.heap.size w h.dk).mono ?_
  rintro e w' ⟨ao, m, c, rfl, R, k⟩
  exact ⟨ao, m, c, rfl, R, h.on k, k, R.sl.conv 28 9 5 Tryz.underlying28 Tryz.underlying5 Tryz.underlying9⟩
end
/-- []byte of a constant: the row is made, then marked. -/
theorem lit_cv (w : World) (cs : List Int) (n : Nat) (hn : cs.length = n) : (convert 28 28 (.slice (some ⟨w.heap.size, 0, none⟩) n n)).run Tryz.prog (w.alloc (.cells (cs.map (Value.int .u8)).toArray 5)) = .ok (.slice (some ⟨w.heap.size, 0, none⟩) n n) (w.alloc (.cells (cs.map (Value.int .u8)).toArray 5 (n, n + 1))) := by
  have := Go.Lib.run_convert_bytes_const (P := Tryz.prog) w 28 5 (cs.map (Value.int .u8)).toArray n n Tryz.underlying28 Tryz.underlying5
  rw [this]
  simp [hn]
theorem lit_sl (w : World) (cs : List Int) (n : Nat) (fr : Nat × Nat) (hn : cs.length = n) (hm : n ≤ 1000) : Sl (w.alloc (.cells (cs.map (Value.int .u8)).toArray 5 fr)) (.slice (some ⟨w.heap.size, 0, none⟩) n n) cs := by
  subst hn
  exact Sl.block (heap_alloc_new w _) (by unfold maxLen; omega)
end Go.Proofs.YteabdojjllfcpaaGreat

/-
  Lists of few texts that stay whatever becomes of newer blocks; a disk and a row of bytes that grow side by side.
-/
namespace Go.Proofs.YteabdojjllfcpaaGreat
open Go.ChangeShapes Go.WideShapes Go.ChangeAt Go.RowKit
open Go.Proofs
open Go.Deep
/-- the row of texts that Few has made so far; each text was there in w0. -/
def Few0 (w0 w wr : World) (l : List (Value × List Int)) (most k : Nat) (o : Value) : Prop :=
  ∃ l' : List (Value × List Int), l'.length = k ∧ wr.ownsRow w.heap.size 28 1 o k (l'.map (·.1)) ∧ Kp [] w wr ∧ (∀ x ∈ l', Sl w0 x.1 x.2) ∧ l'.map (·.2) = (l.take k).map fun x => x.2.take most
/-- Few's answer stays as it is while blocks are written that were there ahead of the call. -/
theorem Few0.lists {w0 w wr : World} {l : List (Value × List Int)} {most k : Nat} {o : Value} (h : Few0 w0 w wr l most k o) (hB : ∀ x ∈ l, Bs x.2) (hk : k ≤ 1000) :
    ∃ l' : List (Value × List Int), l'.length = k ∧ l'.map (·.2) = (l.take k).map (fun x => x.2.take most) ∧ ∀ (S : List Nat) (w' : World), (∀ i ∈ S, i < w.heap.size) → Kp S wr w' → Kp [] w0 w' → Lists w' o l' := by
  obtain ⟨l', rfl, ho, hK, hS, he⟩ := h
  refine ⟨l', rfl, he, fun S w' hlt kS k0 => ?_⟩
  have hBs : ∀ x ∈ l', Bs x.2 := fun x hx => by
    have : x.2 ∈ l'.map (·.2) := List.mem_map_of_mem hx
    rw [he] at this
    obtain ⟨y, hy, hy2⟩ := List.mem_map.1 this
    rw [← hy2]
    exact (hB y (List.mem_of_mem_take hy)).takes _
  have ho' := kS.owns ho (fun i hi hm => by have := (ho.lt i hi).1; have := hlt i hm; omega)
  rcases ho'.2 with ⟨rfl, h0⟩ | ⟨g, cap, cur, rfl, _, hg, _⟩
  · exact ⟨none, 0, by rw [h0], by omega, fun i hi => by omega⟩
  · refine ⟨some ⟨g, 0, none⟩, cap, rfl, by omega, fun i hi => ⟨g, 0, rfl, ?_, (hS _ (List.getElem_mem hi)).kept k0 (by simp), hBs _ (List.getElem_mem hi)⟩⟩
    have := ho'.cells (g := g) rfl i l'[i].1 (by simp [List.getElem?_eq_getElem hi])
    rwa [Addr.add_lit] at this
/-- a disk that was there when the world was wB, and a row beside it that is new since. -/
structure Lp (w0 wB : World) (vB : Value) (p : Nat) (wr : World) (v : Value) (d : Dk) (x : Value) (X : List Int) : Prop where
  nw : Nw w0 wr p v d
  st : Kp (dfp p vB) wB wr
  ch : ∀ k, v.ownBlock = some k → vB.ownBlock = some k ∨ wB.heap.size ≤ k
  row : Row wr wB.heap.size x X
  dj : ∀ k, x.ownBlock = some k → k ∉ dfp p v
section
variable {w0 wB wr w1 w2 : World} {vB : Value} {p : Nat} {v v1 : Value} {d d1 : Dk} {x x2 : Value} {X Y : List Int}
/-- the disk takes a step. -/
theorem Lp.disk (h : Lp w0 wB vB p wr v d x X) (n : Nw w0 w1 p v1 d1) (t : DSt p wr v w1 v1) : Lp w0 wB vB p w1 v1 d1 x X := by
  refine ⟨n, h.st.then t.1 (fun i hi => ?_), fun k hk => ?_, h.row.kept t.1 h.dj, fun k hk hm => ?_⟩
  · rcases mem_dfp.1 hi with rfl | hi
    · exact .inl (mem_dfp.2 (.inl rfl))
    · exact (h.ch i hi).imp (fun e => mem_dfp.2 (.inr e)) id
  · rcases t.2 k hk with e | e
    · exact h.ch k e
    · exact .inr (Nat.le_trans h.st.size e)
  · rcases mem_dfp.1 hm with rfl | hm
    · exact h.dj k hk (mem_dfp.2 (.inl rfl))
    · rcases t.2 k hm with e | e
      · exact h.dj k hk (mem_dfp.2 (.inr e))
      · have := h.row.lt hk; omega
/-- more bytes behind the row. -/
theorem Lp.more (h : Lp w0 wB vB p wr v d x X) (r : Row w2 wB.heap.size x2 Y) (s : RStep wr x w2 x2) (hw : w0.heap.size ≤ wB.heap.size) : Lp w0 wB vB p w2 v d x2 Y := by
  have hin : ∀ i ∈ x.ownBlock.toList, x.ownBlock = some i := fun i hi => by simpa [Option.mem_toList] using hi
  refine ⟨⟨h.nw.dk.kept s.1 (fun i hi hm => h.dj i (hin i hm) hi), h.nw.new, h.nw.kp.then s.1 (fun i hi => .inr ?_), h.nw.arm⟩, h.st.then s.1 (fun i hi => .inr (h.row.own i (hin i hi))), h.ch, r, fun k hk hm => ?_⟩
  · have := h.row.own i (hin i hi); omega
  · rcases s.2 k hk with e | e
    · exact h.dj k e hm
    · have := h.nw.dk.lt k hm; omega
theorem Lp.on (h : Lp w0 wB vB p wr v d x X) (k : Kp [] wr w1) : Lp w0 wB vB p w1 v d x X :=
  ⟨h.nw.on k, h.st.trans (k.mono (by simp)), h.ch, h.row.kept k (by simp), h.dj⟩
end
end Go.Proofs.YteabdojjllfcpaaGreat

/-
  A writer that is new since a world.
-/
namespace Go.Proofs.YteabdojjllfcpaaGreat
open Go.RowKit
open Go.Proofs
/-- a writer that is new since w0. -/
def Wn (w0 w : World) (p : Nat) (v : Value) (bs : List Int) : Prop := Wr w p v bs ∧ Kp [] w0 w ∧ w0.heap.size ≤ p ∧ ∀ k, v.ownBlock = some k → w0.heap.size ≤ k
theorem Wn.step {w0 w w' : World} {p : Nat} {v v' : Value} {bs cs : List Int} (h : Wn w0 w p v bs) (k : Wr w' p v' cs) (s : Step p w v w' v') : Wn w0 w' p v' cs := by
  obtain ⟨h1, h2, h3, h4⟩ := h
  refine ⟨k, h2.then s.1 (fun i hi => ?_), h3, fun i hi => ?_⟩
  · simp only [List.mem_cons, Option.mem_toList] at hi
    rcases hi with rfl | hi
    · exact .inr h3
    · exact .inr (h4 i hi)
  · rcases s.2 i hi with h5 | h5
    · exact h4 i h5
    · exact Nat.le_trans h2.size h5
theorem Wn.kp {w0 w w1 : World} {p : Nat} {v : Value} {bs : List Int} (h : Wn w0 w p v bs) (k : Kp (p :: v.ownBlock.toList) w w1) : Kp [] w0 w1 := by
  obtain ⟨h1, h2, h3, h4⟩ := h
  refine h2.then k (fun i hi => ?_)
  simp only [List.mem_cons, Option.mem_toList] at hi
  rcases hi with rfl | hi
  · exact .inr h3
  · exact .inr (h4 i hi)
theorem Wn.kept {w0 w w1 : World} {p : Nat} {v : Value} {bs : List Int} (h : Wn w0 w p v bs) (k : Kp [] w w1) : Wn w0 w1 p v bs :=
  ⟨h.1.kept k (by simp) (by simp), h.2.1.trans k, h.2.2.1, h.2.2.2⟩
end Go.Proofs.YteabdojjllfcpaaGreat

/-
  The contracts of the reference reader over this seat's program: Raw, Number, Bytes, End, Left, by the same plain function of what is left as the program's own reader.
-/
namespace Go.Proofs.YteabdojjllfcpaaGreat
open Go.RowKit
/-- A reference reader: its three cells at block q: all bytes B, how far it is, whether it is bad. -/
def RR (w : World) (q : Nat) (v : Value) (i : Nat) (bad : Bool) (B : List Int) : Prop :=
  w.heap[q]? = some (.cells #[v, .int .i64 i, .bool bad] 175 (0, 0)) ∧ Sl w v B ∧ v.ownBlock ≠ some q ∧ i ≤ B.length
/-- what is left of it. -/
def rest (i : Nat) (bad : Bool) (B : List Int) : List Int := if bad then [] else B.drop i
theorem RR.kept {w w' : World} {q : Nat} {v : Value} {i : Nat} {bad : Bool} {B : List Int} {S : List Nat} (h : RR w q v i bad B) (k : Kp S w w') (hp : q ∉ S) (hv : ∀ i, v.ownBlock = some i → i ∉ S) : RR w' q v i bad B :=
  ⟨k.heap h.1 hp, h.2.1.kept k hv, h.2.2.1, h.2.2.2⟩
/-- what a call of a reference reader leaves. -/
def RLeft (w : World) (q : Nat) (v : Value) (B : List Int) (s : Bool × List Int) (w' : World) : Prop :=
  ∃ i bad, RR w' q v i bad B ∧ s = (bad, rest i bad B) ∧ Kp [q] w w'
end Go.Proofs.YteabdojjllfcpaaGreat

/-
  What is left of a reader: package wire's Left, and the reference's.
-/
namespace Go.Proofs.YteabdojjllfcpaaGreat
open Go.RowKit
open Go.Proofs
theorem left_any (q : Nat) (v : Value) (bad : Bool) (bs : List Int) (w : World) (h : Rd w q v bad bs) :
    Calls Tryz.prog 98 #[.pointer (some ⟨q, 0, none⟩)] w fun e w' => e = .returned (.int .i64 bs.length) ∧ w' = w := by
  obtain ⟨ao, c, rfl, h1, h2, h3, h4⟩ := h.2.1
  have hc0 := (cell_of_two h.1).1
  clear h4 h3 h
  go_enter Tryz.func98, Tryz.ntmps98
  go_wp2
  go_ret
  exact ⟨rfl, rfl⟩
end Go.Proofs.YteabdojjllfcpaaGreat

/-
  Records in memory: rows of slices of a call's own that stay while an older block is written; a journal's block.
-/
namespace Go.Proofs.YteabdojjllfcpaaGreat
open Go.RowKit
open Go.Proofs
theorem be_bq (n : Int) : be n 4 0 = bq n := by simp [be, byteAt, List.range_succ, bq]
theorem Parts.keptS {w w' : World} {base : Nat} {v : Value} {l : List (Value × List Int)} {S : List Nat} (h : Parts w base v l) (k : Kp S w w') (hS : ∀ i ∈ S, i < base) : Parts w' base v l :=
  ⟨h.1.kept k (fun i hi hm => by have := h.1.own i hi; have := hS i hm; omega), fun x hx => ⟨(h.2 x hx).1.kept k (fun i hi hm => by have := Row.own (h.2 x hx).1 i hi; have := hS i hm; omega), (h.2 x hx).2⟩⟩
theorem Parts.snocS {wr w2 w3 w4 : World} {base : Nat} {v v' : Value} {l : List (Value × List Int)} {x : Value × List Int} {S : List Nat} (h : Parts wr base v l) (k : Kp S wr w2) (hS : ∀ i ∈ S, i < base) (hx : Row w2 wr.heap.size x.1 x.2) (hb : Bs x.2) (k3 : Kp [] w2 w3)
    (r : RowV w4 base v' (l.map (·.1) ++ [x.1])) (s : RStep w3 v w4 v') (hbase : base ≤ wr.heap.size) : Parts w4 base v' (l ++ [x]) := by
  refine ⟨by rw [List.map_append]; exact r, fun y hy => ?_⟩
  rcases List.mem_append.1 hy with hy | hy
  · obtain ⟨h1, h2, h3⟩ := h.2 y hy
    obtain ⟨g1, _, _⟩ := (h.keptS k hS).2 y hy
    refine ⟨(g1.kept k3 (by simp)).kept s.1 (fun i hi hm => h3 i hi (by simpa using hm)), h2, fun i hi hv => ?_⟩
    rcases s.2 i hv with h4 | h4
    · exact h3 i hi h4
    · have := h1.lt hi
      have := k.size
      have := k3.size
      omega
  · obtain rfl : y = x := by simpa using hy
    have hlt : ∀ i, y.1.ownBlock = some i → i < w3.heap.size := fun i hi => by have := hx.lt hi; have := k3.size; omega
    have hne : ∀ i, y.1.ownBlock = some i → v.ownBlock ≠ some i := fun i hi hv => by have := h.1.lt hv; have := hx.own i hi; omega
    refine ⟨owns_rebase ((hx.kept k3 (by simp)).kept s.1 (fun i hi hm => hne i hi (by simpa using hm))) (fun i hi => Nat.le_trans hbase (hx.own i hi)), hb, fun i hi hv => ?_⟩
    rcases s.2 i hv with h4 | h4
    · exact hne i hi h4
    · have := hlt i hi; omega
/-- one more slice behind them. -/
theorem wpList_parts {base : Nat} {wr w2 : World} {ops : Array Oper} {rest : List Oper} {o : Oper} {a : Act} {Q : Exit → Act → World → Prop} (hgd : o.guard = none) (s x : Operand)
    (ho : o.op = .call { callee := .builtin .append, args := #[s, x], argTypes := #[47, 47] }) (v : Value) (l : List (Value × List Int)) (hs : a.eval s = v) (hP : Parts wr base v l) (hbase : base ≤ wr.heap.size) (hl : l.length ≤ 1000000)
    (vx : Value) (bs : List Int) (S : List Nat) (k : Kp S wr w2) (hS : ∀ i ∈ S, i < base) (hr : Row w2 wr.heap.size vx bs) (hb : Bs bs) (hx : a.eval x = .slice (some ⟨w2.heap.size, 0, none⟩) 1 1)
    (h : ∀ ao m c w', Parts w' base (.slice ao m c) (l ++ [(vx, bs)]) → Kp v.ownBlock.toList w2 w' → wpList Tryz.prog ops Q rest (a.put o.dst (.slice ao m c)) w') : wpList Tryz.prog ops Q (o :: rest) a (w2.alloc (.cells #[vx] 28)) := by
  have k2 : Kp [] w2 (w2.alloc (.cells #[vx] 28)) := (Kp.refl [] w2).alloc _
  have hP2 := (hP.keptS k hS).kept k2
  obtain ⟨ax, cx, hvx⟩ := hr.shape
  refine wpList_append_rowv hgd s x ho base v (l.map (·.1)) hs hP2.1 ⟨w2.heap.size, 0, none⟩ 1 [vx] hx ?_ ?_ ?_ ?_ ?_
  · intro j u hu
    exact World.news_of_block (heap_alloc_new w2 _) j u (by simpa using hu)
  · simp [hvx, Value.oneCell']
  · simp; omega
  · have := k.size
    simp; omega
  · intro ao m c w' r st
    refine h ao m c w' (hP.snocS (x := (vx, bs)) k hS hr hb k2 r st hbase) ?_
    exact (k2.mono (by simp)).trans st.1
theorem opnP_count (b : List Int) : (opnP b).1.length * 8 ≤ b.length := by
  induction hl : b.length using Nat.strongRecOn generalizing b with
  | ind n ih =>
    subst hl
    rw [opnP_eq]
    split
    · exact Nat.zero_le _
    · split
      · exact Nat.zero_le _
      · split
        · exact Nat.zero_le _
        · have := ih (b.drop (8 + (num1 b).toNat)).length (by rw [List.length_drop]; omega) _ rfl
          rw [List.length_drop] at this
          simp only [List.length_cons]
          omega
/-- the journal at j: its disk at p, how many records. -/
def Jr (w : World) (j p : Nat) (n : Int) : Prop := w.heap[j]? = some (.cells #[.pointer (some ⟨p, 0, none⟩), .int .i64 n] 128 (0, 0))
theorem Jr.kept {w w' : World} {j p : Nat} {n : Int} {S : List Nat} (h : Jr w j p n) (k : Kp S w w') (hj : j ∉ S) : Jr w' j p n := k.heap h hj
theorem Jr.lt {w : World} {j p : Nat} {n : Int} (h : Jr w j p n) : j < w.heap.size := (Array.getElem?_eq_some_iff.1 h).1
/-- a journal's block is none of a disk's. -/
theorem Jr.off {w : World} {j p : Nat} {n : Int} {base p' : Nat} {v : Value} {d : Dk} (h : Jr w j p n) (D : DskP w base p' v d) : j ∉ dfp p' v := fun hm => by
  rcases mem_dfp.1 hm with rfl | hm
  · have h2 := D.here
    unfold Fv at h2
    unfold Jr at h
    rw [h2] at h
    injection h with h
    injection h with h3
    have := congrArg Array.size h3
    simp at this
  · obtain ⟨c, hc⟩ := row_typ D.row hm
    unfold Jr at h
    rw [hc] at h
    injection h with h
    injection h with _ h3
    cases h3
/-- A journal and its disk, both made since w0. -/
structure Jn (w0 w : World) (p : Nat) (v : Value) (d : Dk) (j : Nat) (n : Nat) : Prop where
  nw : Nw w0 w p v d
  jr : Jr w j p n
  new : w0.heap.size ≤ j
section
variable {w0 w w' : World} {p j n : Nat} {v v' : Value} {d d' : Dk}
theorem Jn.off (h : Jn w0 w p v d j n) : j ∉ dfp p v := h.jr.off h.nw.dk
theorem Jn.on (h : Jn w0 w p v d j n) (k : Kp [] w w') : Jn w0 w' p v d j n := ⟨h.nw.on k, h.jr.kept k (by simp), h.new⟩
/-- the disk takes a step. -/
theorem Jn.disk (h : Jn w0 w p v d j n) (g : Nw w0 w' p v' d') (t : DSt p w v w' v') : Jn w0 w' p v' d' j n := ⟨g, h.jr.kept t.1 h.off, h.new⟩
end
/-- what a step of a journal may write. -/
def JSt (p j : Nat) (w : World) (v : Value) (w' : World) (v' : Value) : Prop := Kp (j :: dfp p v) w w' ∧ ∀ k, v'.ownBlock = some k → v.ownBlock = some k ∨ w.heap.size ≤ k
theorem DSt.jst {p j : Nat} {w w' : World} {v v' : Value} (h : DSt p w v w' v') : JSt p j w v w' v' := ⟨h.1.mono (fun i hi => by simp [hi]), h.2⟩
theorem JSt.refl (p j : Nat) (w : World) (v : Value) : JSt p j w v w v := ⟨Kp.refl _ _, fun _ h => .inl h⟩
theorem JSt.trans {p j : Nat} {a b c : World} {u v x : Value} (h : JSt p j a u b v) (k : JSt p j b v c x) : JSt p j a u c x := by
  refine ⟨h.1.then k.1 (fun i hi => ?_), fun i hi => ?_⟩
  · rcases List.mem_cons.1 hi with rfl | hi
    · exact .inl (by simp)
    · rcases mem_dfp.1 hi with rfl | hi
      · exact .inl (by simp [dfp])
      · rcases h.2 i hi with h1 | h1
        · exact .inl (by simp [mem_dfp, h1])
        · exact .inr h1
  · rcases k.2 i hi with h1 | h1
    · exact h.2 i h1
    · exact .inr (Nat.le_trans h.1.size h1)
theorem JSt.mid {p j : Nat} {a b : World} (v : Value) (k : Kp [] a b) : JSt p j a v b v := ⟨k.mono (by simp), fun _ h => .inl h⟩
end Go.Proofs.YteabdojjllfcpaaGreat

/-
  The contracts of package journal: laid, read.
-/
namespace Go.Proofs.YteabdojjllfcpaaGreat
open Go.RowKit
open Go.Proofs
theorem raw_row (q : Nat) (v : Value) (bad : Bool) (bs : List Int) (m : Nat) (w : World) (hR : Rd w q v bad bs) (hb : bs.length ≤ 140737488355328) (hm : m ≤ bs.length) :
    Calls Tryz.prog 92 #[.pointer (some ⟨q, 0, none⟩), .int .i64 m] w fun e w' => ∃ ao c, e = .returned (.slice ao m c) ∧ Row w' w.heap.size (.slice ao m c) (bs.take m) ∧ Left w q v (bad, bs.drop m) w' := by
  have hl : (bs.take m).length = m := by simp; omega
  obtain ⟨cs, hcs⟩ : ∃ cs, cs = bs.take m := ⟨_, rfl⟩
  rw [← hcs] at hl ⊢
  have HC : Hid (cs = bs.take m) := hcs
  clear hcs
  subst hl
  go_enter Tryz.func92, Tryz.ntmps92
  go_wp2_with fail
  refine (take_ok q v bad bs cs.length _ hR hm).mono ?_
  rintro e w1 ⟨ao, c, rfl, hT⟩
  have hS : Sl w1 (.slice ao cs.length c) cs := by have := hT.1; rwa [← HC.out] at this
  have hL := hT.left
  clear hT
  go_wp2_with fail
  refine (copy_any _ cs _ hS (by omega)).mono ?_
  rintro e w2 ⟨ao2, c2, rfl, h1, h2⟩
  go_wp2_with fail
  go_ret
  refine ⟨ao2, c2, rfl, owns_rebase h1 (fun k hk => Nat.le_trans hL.2.size (h1.lt k hk).1), ?_⟩
  obtain ⟨⟨v2, r2, o2⟩, k2⟩ := hL
  exact ⟨⟨v2, r2.kept h2 (by simp) (by simp), o2⟩, k2.trans (h2.mono (by simp))⟩
theorem not32 (n : Int) (h0 : 0 ≤ n) (h1 : n ≤ 4294967295) : bits .xor .u32 IntKind.u32.max n = 4294967295 - n := by
  obtain ⟨m, rfl⟩ := Int.eq_ofNat_of_zero_le h0
  have e : BitVec.ofInt 32 IntKind.u32.max = BitVec.allOnes 32 := by decide
  have h2 : (BitVec.ofInt 32 (m : Int)).toNat = m := by
    rw [BitVec.ofInt_natCast, BitVec.toNat_ofNat]; exact Nat.mod_eq_of_lt (by omega)
  show IntKind.u32.wrap ((BitVec.ofInt 32 IntKind.u32.max ^^^ BitVec.ofInt 32 (m : Int)).toNat : Int) = _
  rw [e, BitVec.allOnes_xor, BitVec.toNat_not, h2]
  simp [IntKind.wrap, IntKind.signed, IntKind.bits]
  omega
theorem uns32 : ¬ IntKind.u32.signed = true := by decide
set_option maxRecDepth 100000 in
set_option maxHeartbeats 2000000 in
theorem jlaid_any (v : Value) (r : List Int) (w : World) (hS : Sl w v r) (hl : r.length ≤ 65535) :
    Calls Tryz.prog 100 #[v] w fun e w' => ∃ ao m c, e = .returned (.slice ao m c) ∧ Row w' w.heap.size (.slice ao m c) (recP r) ∧ Kp [] w w' := by
  have HS := hide (fun w' (k : Kp [] w w') => hS.kept k (by simp))
  have hrec : recP r = bq r.length ++ bq (4294967295 - r.length) ++ r := rfl
  have HR := hide hrec
  have HL := hide hl
  obtain ⟨ar, cr, rfl, -⟩ := hS
  obtain ⟨n, hn⟩ : ∃ n, n = r.length := ⟨_, rfl⟩
  have hn32 : IntKind.u32.wrap (n : Int) = n := by simp [IntKind.wrap, IntKind.signed, IntKind.bits]; omega
  have hnl : (n : Int) ≤ 65535 := by omega
  have hus := uns32
  have hx := not32 n (by omega) (by omega)
  rw [← hn] at HS HR HL ⊢
  have HN := hide hn
  clear hn hl hrec
  go_enter Tryz.func100, Tryz.ntmps100
  go_wp2_with fail
  refine (new_abs w).mono ?_
  rintro ee w1 ⟨p, rfl, W1, hp1, K1⟩
  have HW : Hid (Wn w w1 p (.slice none 0 0) []) := ⟨W1, K1, hp1, fun k hk => by cases hk⟩
  clear W1 hp1 K1
  go_wp2_with fail
  refine (num_any p n (.slice none 0 0) [] w1 HW.out.1 (by simp)).mono ?_
  rintro ee w2 ⟨rfl, v2, W2, S2⟩
  rw [List.nil_append, be_bq] at W2
  have HW2 := hide (HW.out.step W2 S2)
  clear W2 S2
  go_wp2_with fail
  refine (num_any p _ v2 _ w2 HW2.out.1 (by rw [bq_len]; omega)).mono ?_
  rintro ee w3 ⟨rfl, v3, W3, S3⟩
  rw [be_bq] at W3
  have HW3 := hide (HW2.out.step W3 S3)
  clear W3 S3
  go_wp2_with fail
  refine (raw_any p v3 _ _ r w3 HW3.out.1 (HS.out w3 HW3.out.2.1) (by have := HL.out; have := HN.out; rw [List.length_append, bq_len, bq_len]; omega)).mono ?_
  rintro ee w4 ⟨rfl, v4, W4, S4⟩
  rw [← HR.out] at W4
  have HW4 := hide (HW3.out.step W4 S4)
  clear W4 S4
  have HD := hide (done_any p v4 _ w4 HW4.out.1 (by have := HL.out; have := HN.out; rw [recP_len]; omega))
  obtain ⟨m, hm⟩ : ∃ m, m = (recP r).length := ⟨_, rfl⟩
  rw [← hm] at HD
  have HM := hide hm
  clear hm
  go_wp2_with fail
  refine HD.out.mono ?_
  rintro ee w5 ⟨a5, c5, rfl, R5, K5⟩
  have HR5 : Hid (Row w5 w.heap.size (.slice a5 m c5) (recP r)) := row_new (w0 := w4) (by unfold Row; rw [← HM.out]; exact R5) HW4.out.2.1
  have HK5 := hide (HW4.out.2.1.trans K5)
  clear R5 K5 HD
  go_wp2_with fail
  go_ret
  exact ⟨a5, m, c5, rfl, HR5.out, HK5.out⟩
set_option maxRecDepth 100000 in
set_option maxHeartbeats 4000000 in
theorem read_jr (v : Value) (b : List Int) (w : World) (hS : Sl w v b) (hB : Bs b) (hl : b.length ≤ 1048576) :
    Calls Tryz.prog 66 #[v] w fun e w' => Kp [] w w' ∧ ((opnP b).2.2 = true ∧ (∃ ao m c l, e = .returned (.tuple #[.slice ao m c, .int .i64 (opnP b).2.1, .int .i64 0]) ∧ Parts w' w.heap.size (.slice ao m c) l ∧ l.map (·.2) = (opnP b).1) ∨ (opnP b).2.2 = false ∧ e = .returned (.tuple #[.slice none 0 0, .int .i64 0, .int .i64 14])) := by
  have HRd := hide (read_any v b w hS (by omega))
  have HB := hide hB
  obtain ⟨ab, cb, rfl, -⟩ := hS
  obtain ⟨n, hn⟩ : ∃ n, n = b.length := ⟨_, rfl⟩
  rw [← hn] at HRd hl ⊢
  have HN := hide hn
  have hln : (n : Int) ≤ 1048576 := by omega
  have hus := uns32
  clear hn hB hl
  go_enter Tryz.func66, Tryz.ntmps66
  go_wp2_with fail
  refine HRd.out.mono ?_
  rintro ee w1 ⟨q, v1, rfl, hq, R1, hv1, K1⟩
  have HQ := hide hq
  have HK1 := hide K1
  have hq1 := lt_of_block R1.1
  have HI : Hid (∃ (at_ : Nat) (l : List (Value × List Int)) (rv : Value), at_ ≤ n ∧ (Value.int .i64 0) = .int .i64 at_ ∧ (∃ ao c, (Value.slice none 0 0) = .slice ao l.length c) ∧ Rd w1 q rv false (b.drop at_) ∧ (∀ k, rv.ownBlock = some k → k < w1.heap.size) ∧ Parts w1 w1.heap.size (.slice none 0 0) l ∧ Kp [q] w1 w1 ∧ opnP b = (l.map (·.2) ++ (opnP (b.drop at_)).1, at_ + (opnP (b.drop at_)).2.1, (opnP (b.drop at_)).2.2)) := by
    refine ⟨0, [], v1, by omega, rfl, ⟨_, _, rfl⟩, by simpa using R1, fun k hk => (hv1 k hk).2, ⟨World.ownsRow_nil _ _ _ _, by simp⟩, Kp.refl _ _, by simp⟩
  clear HRd hq R1 hv1 K1
  go_wp2_with fail
  go_loopw [5, 6] (fun o s wr => ∃ (at_ : Nat) (l : List (Value × List Int)) (rv : Value), at_ ≤ n ∧ s = .int .i64 at_ ∧ (∃ ao c, o = .slice ao l.length c) ∧ Rd wr q rv false (b.drop at_) ∧ (∀ k, rv.ownBlock = some k → k < w1.heap.size) ∧ Parts wr w1.heap.size o l ∧ Kp [q] w1 wr ∧ opnP b = (l.map (·.2) ++ (opnP (b.drop at_)).1, at_ + (opnP (b.drop at_)).2.1, (opnP (b.drop at_)).2.2)) (fun _ s _ => n - (intOf s).toNat)
  case atStart => exact HI.out
  case round =>
    obtain ⟨at_, l, rv, hat, rfl, ⟨ao, c, rfl⟩, R, hrv, hP, hK, hO⟩ := hrel
    have HO := hide hO
    clear hO HI
    obtain ⟨x, hx⟩ : ∃ x, x = b.drop at_ := ⟨_, rfl⟩
    rw [← hx] at R HO
    have hBx : Bs x := by rw [hx]; exact HB.out.drop _
    have hxl : x.length + at_ = n := by rw [hx, List.length_drop]; have := HN.out; omega
    have HX := hide hx
    have HR := hide R
    have HP := hide hP
    have HK := hide hK
    have HV := hide hrv
    have HBx := hide hBx
    clear hx R hP hK hrv hBx
    obtain ⟨k, hk⟩ : ∃ k, k = x.length := ⟨_, rfl⟩
    have HLf := hide (left_any q rv false x wr HR.out)
    rw [← hk] at HLf hxl
    have HKl := hide hk
    clear hk
    by_cases h8 : k < 8
    · have h8' : (k : Int) < 8 := by omega
      go_wp2_with fail
      refine HLf.out.mono ?_
      rintro ee w2 ⟨rfl, hw2⟩
      subst w2
      clear HLf
      go_wp2_with fail
      go_ret3
      have e := opnP_short (b := x) (by have := HKl.out; omega)
      have eb := HO.out
      rw [e] at eb
      refine ⟨HK1.out.then HK.out (fun i hi => .inr (by have := HQ.out; simp at hi; omega)), .inl ⟨by rw [eb], ao, _, c, l, by rw [eb]; rfl, HP.out.rebase HK1.out, by rw [eb]; simp⟩⟩
    · have h8' : ¬ (k : Int) < 8 := by omega
      have h8'' : (8 : Int) ≤ k := by omega
      go_wp2_with fail
      refine HLf.out.mono ?_
      rintro ee w2 ⟨rfl, hw2⟩
      subst w2
      clear HLf
      have HN1 := hide (rnum_ok q rv false x wr HR.out (by have := HKl.out; omega) HBx.out)
      obtain ⟨a, ha⟩ : ∃ a, a = num1 x := ⟨_, rfl⟩
      have ha' : val (x.take 4) = a := ha.symm
      rw [ha'] at HN1
      have hab : 0 ≤ a ∧ a ≤ 4294967295 := by
        have h1 := val_bd (x.take 4) (HBx.out.takes 4)
        have h2 : (x.take 4).length = 4 := by have := HKl.out; simp; omega
        rw [h2, ha'] at h1
        omega
      obtain ⟨m, rfl⟩ := Int.eq_ofNat_of_zero_le hab.1
      have hx32 := not32 m hab.1 hab.2
      have hw64 : IntKind.i64.wrap (m : Int) = m := by simp [IntKind.wrap, IntKind.signed, IntKind.bits]; omega
      have HA := hide ha
      have HM := hide hab
      clear ha ha' hab
      go_wp2_with fail
      refine HN1.out.mono ?_
      rintro ee w3 ⟨rfl, r3, T3⟩
      obtain ⟨⟨v3, R3, o3⟩, K3⟩ := T3.left
      have HR3 := hide R3
      have HO3 := hide (fun i hi => HV.out i (o3 i hi))
      have HK3 := hide K3
      clear T3 R3 o3 K3 HN1
      have HN2 := hide (rnum_ok q v3 false (x.drop 4) w3 HR3.out (by have := HKl.out; simp; omega) (HBx.out.drop 4))
      obtain ⟨t, ht⟩ : ∃ t, t = num2 x := ⟨_, rfl⟩
      have ht' : val ((x.drop 4).take 4) = t := ht.symm
      rw [ht'] at HN2
      have HT := hide ht
      clear ht ht'
      go_wp2_with fail
      refine HN2.out.mono ?_
      rintro ee w4 ⟨rfl, r4, T4⟩
      obtain ⟨⟨v4, R4, o4⟩, K4⟩ := T4.left
      rw [List.drop_drop] at R4
      have HR4 : Hid (Rd w4 q v4 false (x.drop 8)) := R4
      have HO4 := hide (fun i hi => HO3.out i (o4 i hi))
      have HK4 := hide (HK3.out.trans K4)
      clear T4 R4 o4 K4 HN2 HR3 HO3 HK3
      by_cases hbad : t = 4294967295 - (m : Int) ∧ m ≤ 65535
      · obtain ⟨rfl, hm⟩ := hbad
        have hm' : ¬ (65535 : Int) < m := by omega
        have hm'' : (m : Int) ≤ 65535 := by omega
        have HL4 := hide (left_any q v4 false (x.drop 8) w4 HR4.out)
        obtain ⟨k2, hk2⟩ : ∃ k2, k2 = (x.drop 8).length := ⟨_, rfl⟩
        rw [← hk2] at HL4
        have hk28 : k2 + 8 = k := by rw [hk2, List.length_drop]; have := HKl.out; omega
        have HK2 := hide hk2
        clear hk2
        go_wp2_with fail
        refine HL4.out.mono ?_
        rintro ee w5 ⟨rfl, hw5⟩
        subst w5
        clear HL4
        by_cases htn : k2 < m
        · have htn' : (k2 : Int) < m := by omega
          go_wp2_with fail
          go_ret3
          have e := opnP_torn (b := x) (by have := HKl.out; omega) (by rw [← HT.out, ← HA.out]) (by rw [← HA.out]; omega) (by rw [← HA.out]; have := HKl.out; omega)
          have eb := HO.out
          rw [e] at eb
          refine ⟨HK1.out.then (HK.out.trans HK4.out) (fun i hi => .inr (by have := HQ.out; simp at hi; omega)), .inl ⟨by rw [eb], ao, _, c, l, by rw [eb]; rfl, (HP.out.keptS HK4.out (by simpa using hq1)).rebase HK1.out, by rw [eb]; simp⟩⟩
        · have htn' : ¬ (k2 : Int) < m := by omega
          have HRw := hide (raw_row q v4 false (x.drop 8) m w4 HR4.out (by have := HK2.out; omega) (by have := HK2.out; omega))
          go_wp2_with fail
          refine HRw.out.mono ?_
          rintro ee w5 ⟨a5, c5, rfl, R5, L5⟩
          obtain ⟨⟨v5, D5, o5⟩, K5⟩ := L5
          rw [List.drop_drop] at D5
          have HP4 := hide (HP.out.keptS HK4.out (by simpa using hq1))
          have HR5 := hide R5
          have HD5 : Hid (Rd w5 q v5 false (x.drop (8 + m))) := D5
          have HO5 := hide (fun i hi => HO4.out i (o5 i hi))
          have HK5 := hide K5
          have hsz : w1.heap.size ≤ w4.heap.size := (HK.out.trans HK4.out).size
          have hll : l.length ≤ 1000000 := by
            have h1 := opnP_count b
            rw [HO.out] at h1
            simp only [List.length_append, List.length_map] at h1
            have := HN.out
            omega
          have hbx : Bs ((x.drop 8).take m) := (HBx.out.drop 8).takes m
          clear R5 D5 o5 K5 HRw
          go_wp2_with (at_builtin; refine wpList_parts (base := w1.heap.size) (wr := w4) rfl (.tmp 32) (.tmp 37) rfl (.slice ao l.length c) l rfl HP4.out hsz hll (.slice a5 m c5) _ [q] HK5.out (by simpa using hq1) HR5.out hbx rfl ?_; intro a6 m6 c6 w6 P6 K6)
          have hq6 : ∀ i ∈ (Value.slice ao l.length c).ownBlock.toList, w1.heap.size ≤ i := fun i hi => HP4.out.1.own i (by simpa [Option.mem_toList] using hi)
          have HD6 := hide (HD5.out.kept K6 (fun hm => by have := hq6 q hm; omega) (fun i hi hm => by have := hq6 i hm; have := HO5.out i hi; omega))
          have HL6 := hide (left_any q v5 false (x.drop (8 + m)) w6 HD6.out)
          obtain ⟨k3, hk3⟩ : ∃ k3, k3 = (x.drop (8 + m)).length := ⟨_, rfl⟩
          rw [← hk3] at HL6
          have hk38 : k3 + (8 + m) = k := by rw [hk3, List.length_drop]; have := HKl.out; omega
          have hm6 : m6 = l.length + 1 := by have := P6.1.len; simpa using this
          subst hm6
          have HP6 := hide P6
          have HK6 : Hid (Kp [q] w1 w6) := (HK.out.trans (HK4.out.trans HK5.out)).then K6 (fun i hi => .inr (hq6 i hi))
          have hwn : IntKind.i64.wrap ((n : Int) - (k3 : Int)) = (n : Int) - (k3 : Int) := by simp [IntKind.wrap, IntKind.signed, IntKind.bits]; omega
          clear hk3 P6 K6 hq6 HD5 HK5
          go_wp2_with fail
          refine HL6.out.mono ?_
          rintro ee w7 ⟨rfl, hw7⟩
          subst w7
          clear HL6
          go_wp2_with fail
          go_roundw
          case rel =>
            have e : b.drop (at_ + (8 + m)) = x.drop (8 + m) := by rw [HX.out, List.drop_drop]
            have hst := opnP_step b at_ (l.map (·.2)) (by rw [← HX.out]; exact HO.out) (by rw [← HX.out]; have := HKl.out; omega) (by rw [← HX.out, ← HT.out, ← HA.out]) (by rw [← HX.out, ← HA.out]; omega) (by rw [← HX.out, ← HA.out]; have := HKl.out; omega)
            rw [← HX.out, ← HA.out, Int.toNat_natCast] at hst
            refine ⟨at_ + (8 + m), _, v5, by omega, ?_, ⟨a6, c6, ?_⟩, by rw [e]; exact HD6.out, HO5.out, HP6.out, HK6.out, ?_⟩
            · congr 1; omega
            · simp
            · rw [hst]; simp
          case measure =>
            simp [intOf]; omega
      · by_cases hb1 : t = 4294967295 - (m : Int)
        · have hm' : (65535 : Int) < m := by
            have : ¬ m ≤ 65535 := fun h => hbad ⟨hb1, h⟩
            omega
          have HBD : Hid (opnP x = ([], 0, false)) := opnP_bad (by have := HKl.out; omega) (.inr (by rw [← HA.out]; exact hm'))
          subst hb1
          clear hbad
          go_wp2_with fail
          go_ret3
          have eb := HO.out
          rw [HBD.out] at eb
          exact ⟨HK1.out.then (HK.out.trans HK4.out) (fun i hi => .inr (by have := HQ.out; simp at hi; omega)), .inr ⟨by rw [eb], rfl⟩⟩
        · have HBD : Hid (opnP x = ([], 0, false)) := opnP_bad (by have := HKl.out; omega) (.inl (by rw [← HA.out, ← HT.out]; exact hb1))
          clear hbad
          go_wp2_with fail
          go_ret3
          have eb := HO.out
          rw [HBD.out] at eb
          exact ⟨HK1.out.then (HK.out.trans HK4.out) (fun i hi => .inr (by have := HQ.out; simp at hi; omega)), .inr ⟨by rw [eb], rfl⟩⟩
end Go.Proofs.YteabdojjllfcpaaGreat
