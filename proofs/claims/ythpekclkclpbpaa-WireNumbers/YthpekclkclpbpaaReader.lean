/-
  The contracts of package wire's copies and of its reader over this seat's program: copyOf, Done, Read, take, spoil, number, Num, End, Bad.
-/
import Derived.Test.YthpekclkclpbpaaBytes
import Derived.Test.YthpekclkclpbpaaWriter
namespace Go.Proofs.Ythpekclkclpbpaa
open Go.RowKit

/-- A reader: its two cells at block q hold the slice v, which reads as the bytes bs, and whether it is bad. -/
def Rd (w : World) (q : Nat) (v : Value) (bad : Bool) (bs : List Int) : Prop :=
  w.heap[q]? = some (.cells #[v, .bool bad] 69 (0, 0)) ∧ Sl w v bs ∧ v.ownBlock ≠ some q

theorem cell_of_two {w : World} {b : Nat} {v u : Value} {t : TypeId} (h : w.heap[b]? = some (.cells #[v, u] t (0, 0))) : w.cell? ⟨b, 0, none⟩ = some v ∧ w.cell? ⟨b, 1, none⟩ = some u :=
  ⟨by rw [cell_of_row w b 0 _ t _ h]; rfl, by rw [cell_of_row w b 1 _ t _ h]; rfl⟩
theorem free_of_two {w : World} {b : Nat} {c : Array Value} {t : TypeId} (h : w.heap[b]? = some (.cells c t (0, 0))) (j : Nat) : w.frozen? ⟨b, j, none⟩ = false := by
  simp [World.frozen?, h]
theorem two_setCell0 {w : World} {b : Nat} {v u x : Value} {t : TypeId} (h : w.heap[b]? = some (.cells #[v, u] t (0, 0))) : (w.setCell ⟨b, 0, none⟩ x).heap[b]? = some (.cells #[x, u] t (0, 0)) := by
  have hlt := lt_of_block h
  have h' : w.heap[b] = .cells #[v, u] t (0, 0) := by simpa [Array.getElem?_eq_getElem hlt] using h
  show (w.heap.modify b _)[b]? = _
  rw [Array.getElem?_eq_getElem (by simpa using hlt), Array.getElem_modify_self, h']
  rfl
theorem two_setCell1 {w : World} {b : Nat} {v u x : Value} {t : TypeId} (h : w.heap[b]? = some (.cells #[v, u] t (0, 0))) : (w.setCell ⟨b, 1, none⟩ x).heap[b]? = some (.cells #[v, x] t (0, 0)) := by
  have hlt := lt_of_block h
  have h' : w.heap[b] = .cells #[v, u] t (0, 0) := by simpa [Array.getElem?_eq_getElem hlt] using h
  show (w.heap.modify b _)[b]? = _
  rw [Array.getElem?_eq_getElem (by simpa using hlt), Array.getElem_modify_self, h']
  rfl
theorem Rd.kept {w w' : World} {q : Nat} {v : Value} {bad : Bool} {bs : List Int} {S : List Nat} (h : Rd w q v bad bs) (k : Kp S w w') (hp : q ∉ S) (hv : ∀ i, v.ownBlock = some i → i ∉ S) : Rd w' q v bad bs :=
  ⟨k.heap h.1 hp, h.2.1.kept k hv, h.2.2⟩

theorem owns_shape {w : World} {base : Nat} {e : TypeId} {v : Value} {n : Nat} {xs : List Value} (h : w.ownsRow base e 1 v n xs) : ∃ ao c, v = .slice ao n c := by
  rcases h.2 with ⟨rfl, rfl⟩ | ⟨g, cap, cur, rfl, _⟩
  · exact ⟨_, _, rfl⟩
  · exact ⟨_, _, rfl⟩

theorem copy_any (v : Value) (bs : List Int) (w : World) (h : Sl w v bs) (hb : bs.length ≤ 140737488355328) :
    Calls Try.prog 32 #[v] w fun e w' => ∃ ao c, e = .returned (.slice ao bs.length c) ∧ w'.ownsRow w.heap.size 5 1 (.slice ao bs.length c) bs.length (bs.map (Value.int .u8)) ∧ Kp [] w w' := by
  obtain ⟨i0, hi0, hz0, hz1, hz2⟩ := info_parts Try.info5
  obtain ⟨ao, c, rfl, h1, h2, h3, h4⟩ := h
  cases ao with
  | none =>
    have : bs = [] := List.eq_nil_of_length_eq_zero (by have := h3 rfl; omega)
    subst this
    obtain rfl := h3 rfl
    go_enter Try.func32, Try.ntmps32
    go_wp2_with (at_builtin; refine wpList_append_own_none rfl _ _ 25 rfl w.heap.size 5 i0 1 Try.underlying25 hi0 (.slice none 0 0) 0 [] rfl (World.ownsRow_nil _ _ _ _) rfl ?_)
    go_ret
    exact ⟨_, _, rfl, World.ownsRow_nil _ _ _ _, Kp.refl _ _⟩
  | some a =>
    go_enter Try.func32, Try.ntmps32
    go_wp2_with (at_builtin; refine wpList_append_own _ rfl _ _ 25 rfl w.heap.size 5 i0 (.int .u8 0) 1 1 Try.underlying25 hi0 hz0 hz1 hz2 rfl (by decide) (.slice none 0 0) 0 [] rfl (World.ownsRow_nil _ _ _ _) a bs.length c (bs.map (Value.int .u8)) rfl (by simp) (h4 a rfl) (by simp [Value.oneCell']) (by omega) (by omega) (Nat.le_refl _) ?_; intro v' w1 hown hgrow _)
    go_ret
    have hown' : w1.ownsRow w.heap.size 5 1 v' bs.length (bs.map (Value.int .u8)) := by simpa using hown
    obtain ⟨ao, c', rfl⟩ := owns_shape hown'
    exact ⟨ao, c', rfl, hown', (Kp.refl [] w).grown hgrow (fun k hk => by cases hk)⟩

theorem done_any (p : Nat) (v : Value) (bs : List Int) (w : World) (h : Wr w p v bs) (hb : bs.length ≤ 140737488355328) :
    Calls Try.prog 11 #[.pointer (some ⟨p, 0, none⟩)] w fun e w' => ∃ ao c, e = .returned (.slice ao bs.length c) ∧ w'.ownsRow w.heap.size 5 1 (.slice ao bs.length c) bs.length (bs.map (Value.int .u8)) ∧ Kp [] w w' := by
  have hc := h.cell
  have hs := Sl.of_owns h.2
  go_enter Try.func11, Try.ntmps11
  go_wp2_with (go_at_call 32; refine (copy_any v bs _ hs hb).mono ?_; rintro e w' ⟨ao, c, rfl, h1, h2⟩)
  go_ret
  exact ⟨ao, c, rfl, h1, h2⟩

theorem read_any (v : Value) (bs : List Int) (w : World) (h : Sl w v bs) (hb : bs.length ≤ 140737488355328) :
    Calls Try.prog 18 #[v] w fun e w' => ∃ q v', e = .returned (.pointer (some ⟨q, 0, none⟩)) ∧ w.heap.size ≤ q ∧ Rd w' q v' false bs ∧ (∀ k, v'.ownBlock = some k → w.heap.size ≤ k ∧ k < w'.heap.size) ∧ Kp [] w w' := by
  go_enter Try.func18, Try.ntmps18
  go_wp2_with (go_at_call 32; refine (copy_any v bs _ h hb).mono ?_; rintro e w' ⟨ao, c, rfl, h1, h2⟩)
  go_ret
  have hlt := h1.lt
  exact ⟨w'.heap.size, _, rfl, h2.size, ⟨heap_alloc_new w' _, (Sl.of_owns h1).kept ((Kp.refl [] w').alloc _) (by simp), fun e => by have := (hlt _ e).2; omega⟩, fun k hk => ⟨(hlt k hk).1, by have := (hlt k hk).2; simp; omega⟩, h2.alloc _⟩

theorem spoil_any (q : Nat) (v : Value) (bad : Bool) (bs : List Int) (w : World) (h : Rd w q v bad bs) :
    Calls Try.prog 44 #[.pointer (some ⟨q, 0, none⟩)] w fun e w' => e = .returned (.tuple #[]) ∧ Rd w' q (.slice none 0 0) true [] ∧ Kp [q] w w' := by
  have hc := cell_of_two h.1
  have hc0 := hc.1
  have hc1 := hc.2
  have hf := free_of_two h.1
  have hf0 := hf 0
  have hf1 := hf 1
  clear hc hf
  go_enter Try.func44, Try.ntmps44
  go_wp2
  go_end0
  refine ⟨rfl, ⟨two_setCell1 (two_setCell0 h.1), Sl.nil _, by simp [Value.ownBlock]⟩, ((Kp.refl [q] w).setCell (p := ⟨q, 0, none⟩) (.inl (by simp)) _).setCell (p := ⟨q, 1, none⟩) (.inl (by simp)) _⟩

/-- what take leaves of a reader where there is enough: the piece r, and the rest. -/
def Took (w : World) (q n : Nat) (v : Value) (bad : Bool) (bs : List Int) (r : Value) (w' : World) : Prop :=
  Sl w' r (bs.take n) ∧ (∃ v2, Rd w' q v2 bad (bs.drop n) ∧ ∀ k, v2.ownBlock = some k → v.ownBlock = some k) ∧ Kp [q] w w' ∧ ∀ k, r.ownBlock = some k → v.ownBlock = some k

theorem take_end {w : World} {q : Nat} {ao : Option Addr} {c : Nat} {bad : Bool} {bs : List Int} {n : Nat} (h : Rd w q (.slice ao bs.length c) bad bs) (hn : n ≤ bs.length) (x : Option Addr) (l cc : Nat)
    (hx : x = if c = n then ao else ao.map (·.add n)) (hl : l = bs.length - n) (hcc : cc = c - n) : Took w q n (.slice ao bs.length c) bad bs (.slice ao n c) (w.setCell ⟨q, 0, none⟩ (.slice x l cc)) := by
  subst hl hcc hx
  have hk : Kp [q] w (w.setCell ⟨q, 0, none⟩ (.slice (if c = n then ao else ao.map (·.add n)) (bs.length - n) (c - n))) := (Kp.refl [q] w).setCell (p := ⟨q, 0, none⟩) (.inl (by simp)) _
  have ho : ∀ k, (Value.slice (if c = n then ao else ao.map (·.add n)) (bs.length - n) (c - n)).ownBlock = some k → (Value.slice ao bs.length c).ownBlock = some k := by
    intro k
    split
    · cases ao with
      | none => exact id
      | some a => exact id
    · cases ao with
      | none => exact id
      | some a => simp [Value.ownBlock, add_block]
  have hq : ∀ k, (Value.slice ao bs.length c).ownBlock = some k → k ∉ [q] := fun k hk1 hm => by
    simp only [List.mem_singleton] at hm; subst hm; exact h.2.2 hk1
  have hao : ∀ k, (Value.slice ao n c).ownBlock = some k → (Value.slice ao bs.length c).ownBlock = some k := fun k hk1 => by
    cases ao with
    | none => cases hk1
    | some a => exact hk1
  exact ⟨(h.2.1.take n hn).kept hk (fun k hk => hq k (hao k hk)), ⟨_, ⟨two_setCell0 h.1, (h.2.1.drop n hn).kept hk (fun k hk => hq k (ho k hk)), fun e => hq q (ho q e) (by simp)⟩, ho⟩, hk, hao⟩

set_option maxHeartbeats 400000 in
theorem take_ok (q : Nat) (v : Value) (bad : Bool) (bs : List Int) (n : Nat) (w : World) (hR : Rd w q v bad bs) (hn : n ≤ bs.length) :
    Calls Try.prog 45 #[.pointer (some ⟨q, 0, none⟩), .int .i64 n] w fun e w' => ∃ ao c, e = .returned (.slice ao n c) ∧ Took w q n v bad bs (.slice ao n c) w' := by
  obtain ⟨ao, c, rfl, h1, h2, h3, h4⟩ := hR.2.1
  have hc0 := (cell_of_two hR.1).1
  have hf0 := free_of_two hR.1 0
  have hlt : ¬ (n : Int) < 0 := by omega
  have hle : (n : Int) ≤ (bs.length : Int) := by omega
  have hle2 : (n : Int) ≤ (c : Int) := by omega
  unfold maxLen at h2
  clear h4 h3
  by_cases hcn : c = n
  · subst hcn
    go_enter Try.func45, Try.ntmps45
    go_wp2
    go_ret
    refine ⟨_, _, rfl, take_end hR hn _ _ _ ?_ ?_ ?_⟩
    · simp
    · omega
    · omega
  · go_enter Try.func45, Try.ntmps45
    go_wp2
    go_ret
    refine ⟨_, _, rfl, take_end hR hn _ _ _ ?_ ?_ ?_⟩
    · simp [hcn]
    · rfl
    · rfl

theorem take_bad (q : Nat) (v : Value) (bad : Bool) (bs : List Int) (n : Int) (w : World) (h : Rd w q v bad bs) (hn : n < 0 ∨ (bs.length : Int) < n) :
    Calls Try.prog 45 #[.pointer (some ⟨q, 0, none⟩), .int .i64 n] w fun e w' => e = .returned (.slice none 0 0) ∧ Rd w' q (.slice none 0 0) true [] ∧ Kp [q] w w' := by
  have h0 := h
  obtain ⟨ao, c, rfl, h1, h2, h3, h4⟩ := h.2.1
  have hc0 := (cell_of_two h.1).1
  clear h4 h3 h
  rcases Int.lt_or_le n 0 with hlt | hlt
  · go_enter Try.func45, Try.ntmps45
    go_wp2_with (go_at_call 44; refine (spoil_any q _ bad bs _ h0).mono ?_; rintro e w' ⟨rfl, k1, k2⟩)
    go_ret
    exact ⟨rfl, k1, k2⟩
  · have hgt : (bs.length : Int) < n := by omega
    go_enter Try.func45, Try.ntmps45
    go_wp2_with (go_at_call 44; refine (spoil_any q _ bad bs _ h0).mono ?_; rintro e w' ⟨rfl, k1, k2⟩)
    go_ret
    exact ⟨rfl, k1, k2⟩

theorem end_any (q : Nat) (v : Value) (bad : Bool) (bs : List Int) (w : World) (h : Rd w q v bad bs) :
    Calls Try.prog 25 #[.pointer (some ⟨q, 0, none⟩)] w fun e w' => e = .returned (.bool (!bad && bs.isEmpty)) ∧ w' = w := by
  obtain ⟨ao, c, rfl, h1, h2, h3, h4⟩ := h.2.1
  have hc0 := (cell_of_two h.1).1
  have hc1 := (cell_of_two h.1).2
  clear h4 h3 h
  cases bad with
  | true =>
    go_enter Try.func25, Try.ntmps25
    go_wp2
    go_ret
    exact ⟨rfl, rfl⟩
  | false =>
    cases bs with
    | nil =>
      go_enter Try.func25, Try.ntmps25
      go_wp2
      go_ret
      exact ⟨rfl, rfl⟩
    | cons b bs =>
      have hl : (((bs.length : Int) + 1) == 0) = false := by rw [beq_eq_false_iff_ne]; omega
      go_enter Try.func25, Try.ntmps25
      go_wp2
      go_ret
      exact ⟨rfl, rfl⟩

theorem bad_any (q : Nat) (v : Value) (bad : Bool) (bs : List Int) (w : World) (h : Rd w q v bad bs) :
    Calls Try.prog 24 #[.pointer (some ⟨q, 0, none⟩)] w fun e w' => e = .returned (.bool bad) ∧ w' = w := by
  have hc1 := (cell_of_two h.1).2
  clear h
  go_enter Try.func24, Try.ntmps24
  go_wp2
  go_ret
  exact ⟨rfl, rfl⟩

theorem Sl.at {w : World} {ao : Option Addr} {n c : Nat} {bs : List Int} (h : Sl w (.slice ao n c) bs) (h0 : 0 < n) :
    ∃ b off, ao = some ⟨b, off, none⟩ ∧ n = bs.length ∧ ∀ k (hk : k < bs.length), w.cell? ⟨b, off + k, none⟩ = some (.int .u8 bs[k]) := by
  obtain ⟨ao', c', he, h1, h2, h3, h4⟩ := h
  injection he with e1 e2 e3
  subst e1 e2 e3
  cases ao with
  | none => have := h3 rfl; omega
  | some a =>
    obtain ⟨b, off, spot⟩ := a
    have hc := h4 _ rfl 0 (.int .u8 bs[0]) (by simp [List.getElem?_eq_getElem h0])
    have hspot : spot = none := by simpa [Addr.add] using World.cell?_spot hc
    subst hspot
    refine ⟨b, off, rfl, rfl, fun k hk => ?_⟩
    have := h4 _ rfl k (.int .u8 bs[k]) (by simp [List.getElem?_eq_getElem hk])
    rwa [Addr.add_lit] at this

theorem val_small (cs : List Int) (h : Bs cs) (hl : cs.length ≤ 3) : val cs * 256 ≤ 4294967295 := by
  have h1 := (val_bd cs h).2
  have : cs.length = 0 ∨ cs.length = 1 ∨ cs.length = 2 ∨ cs.length = 3 := by omega
  rcases this with e | e | e | e <;> rw [e] at h1 <;> omega
theorem val_take_succ (bs : List Int) (k : Nat) (h : k < bs.length) : val (bs.take (k + 1)) = val (bs.take k) * 256 + bs[k] := by
  rw [List.take_succ_eq_append_getElem h, val_snoc]
theorem Bs.take {bs : List Int} (h : Bs bs) (n : Nat) : Bs (bs.take n) := fun b hb => h b (List.mem_of_mem_take hb)
theorem Bs.drop {bs : List Int} (h : Bs bs) (n : Nat) : Bs (bs.drop n) := fun b hb => h b (List.mem_of_mem_drop hb)
theorem Bs.append {bs cs : List Int} (h : Bs bs) (k : Bs cs) : Bs (bs ++ cs) := fun b hb => by
  rcases List.mem_append.1 hb with h1 | h1
  · exact h b h1
  · exact k b h1

set_option maxHeartbeats 400000 in
theorem rnumber_ok (q : Nat) (v : Value) (bad : Bool) (bs : List Int) (n : Nat) (w : World) (hR : Rd w q v bad bs) (hn : n ≤ bs.length) (h0 : 0 < n) (h4 : n ≤ 4) (hB : Bs bs) :
    Calls Try.prog 43 #[.pointer (some ⟨q, 0, none⟩), .int .i64 n] w fun e w' => e = .returned (.int .u32 (val (bs.take n))) ∧ ∃ r, Took w q n v bad bs r w' := by
  go_enter Try.func43, Try.ntmps43
  go_wp2_with (go_at_call 45; refine (take_ok q v bad bs n _ hR hn).mono ?_; rintro e w1 ⟨ao, c, rfl, hT⟩)
  obtain ⟨b, off, rfl, hl, hcell⟩ := hT.1.at h0
  obtain ⟨cs, hcs⟩ : ∃ cs, cs = bs.take n := ⟨_, rfl⟩
  have hBc : Bs cs := hcs ▸ hB.take n
  rw [← hcs] at hl hcell
  have HC : Hid (cs = bs.take n) := hcs
  have HT : Hid (∃ r, Took w q n v bad bs r w1) := ⟨_, hT⟩
  clear hcs hT hB hR hn
  subst hl
  go_loop [5, 12] (fun x i => ∃ k : Nat, k ≤ cs.length ∧ i = .int .i64 k ∧ x = .int .u32 (val (cs.take k))) (fun _ i => cs.length - (intOf i).toNat)
  case atStart => exact ⟨0, Nat.zero_le _, rfl, rfl⟩
  case round =>
    obtain ⟨k, hk, rfl, rfl⟩ := hrel
    by_cases hlt : k < cs.length
    · have hc := hcell k hlt
      have hb1 := hBc cs[k] (List.getElem_mem hlt)
      have hvb := val_bd (cs.take k) (hBc.take k)
      have hlen : (cs.take k).length ≤ 3 := by simp; omega
      have hv1 := val_small (cs.take k) (hBc.take k) hlen
      obtain ⟨x, hx⟩ : ∃ x, x = val (cs.take k) := ⟨_, rfl⟩
      obtain ⟨y, hy⟩ : ∃ y, y = cs[k] := ⟨_, rfl⟩
      have HX : Hid (val (cs.take (k + 1)) = x * 256 + y) := by rw [hx, hy]; exact val_take_succ cs k hlt
      rw [← hx] at hvb hv1
      rw [← hx]
      rw [← hy] at hc hb1
      obtain ⟨hb1, hb2⟩ := hb1
      obtain ⟨hx0, _⟩ := hvb
      have hor := bits_or_byte x y hx0 hv1 hb1 hb2
      clear hx hy hlen hBc hcell
      go_wp2
      go_round
      case rel => exact ⟨k + 1, by omega, by go_num, by rw [HX.out]⟩
      case measure => simp [intOf]; omega
    · obtain rfl : k = cs.length := by omega
      go_wp2
      go_ret
      exact ⟨congrArg (fun l => Ending.returned (.int .u32 (val l))) HC.out, HT.out⟩

set_option maxHeartbeats 400000 in
theorem rnumber_bad (q : Nat) (v : Value) (bad : Bool) (bs : List Int) (n : Nat) (w : World) (hR : Rd w q v bad bs) (hn : bs.length < n) :
    Calls Try.prog 43 #[.pointer (some ⟨q, 0, none⟩), .int .i64 n] w fun e w' => e = .returned (.int .u32 0) ∧ Rd w' q (.slice none 0 0) true [] ∧ Kp [q] w w' := by
  go_enter Try.func43, Try.ntmps43
  go_wp2_with (go_at_call 45; refine (take_bad q v bad bs n _ hR (by omega)).mono ?_; rintro e w1 ⟨rfl, h1, h2⟩)
  refine wp_loop_rounds 1 ?_
  rw [rounds_succ]
  go_wp2
  go_ret
  exact ⟨rfl, h1, h2⟩

theorem rnum_ok (q : Nat) (v : Value) (bad : Bool) (bs : List Int) (w : World) (hR : Rd w q v bad bs) (hn : 4 ≤ bs.length) (hB : Bs bs) :
    Calls Try.prog 21 #[.pointer (some ⟨q, 0, none⟩)] w fun e w' => e = .returned (.int .u32 (val (bs.take 4))) ∧ ∃ r, Took w q 4 v bad bs r w' := by
  go_enter Try.func21, Try.ntmps21
  go_wp2_with (go_at_call 43; refine (rnumber_ok q v bad bs 4 _ hR hn (by omega) (by omega) hB).mono ?_; rintro e w1 ⟨rfl, h1⟩)
  go_ret
  exact ⟨rfl, h1⟩
theorem rnum_bad (q : Nat) (v : Value) (bad : Bool) (bs : List Int) (w : World) (hR : Rd w q v bad bs) (hn : bs.length < 4) :
    Calls Try.prog 21 #[.pointer (some ⟨q, 0, none⟩)] w fun e w' => e = .returned (.int .u32 0) ∧ Rd w' q (.slice none 0 0) true [] ∧ Kp [q] w w' := by
  go_enter Try.func21, Try.ntmps21
  go_wp2_with (go_at_call 43; refine (rnumber_bad q v bad bs 4 _ hR hn).mono ?_; rintro e w1 ⟨rfl, h1, h2⟩)
  go_ret
  exact ⟨rfl, h1, h2⟩
end Go.Proofs.Ythpekclkclpbpaa
