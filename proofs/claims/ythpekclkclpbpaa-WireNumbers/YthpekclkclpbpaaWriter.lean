/-
  The contracts of package wire's writer over this seat's program: New, number, Num: what a call writes behind what there was, and what it leaves alone.
-/
import Derived.Test.YthpekclkclpbpaaBase
import Derived.Deep.RegionLaw
namespace Go.Proofs.Ythpekclkclpbpaa
open Go.RowKit
theorem Try.info5 : (Try.prog.info? 5).map (fun i => (i.zero, i.size, i.bytes)) = some (some (.int .u8 0), 1, 1) := by kernel_rfl

/-- A writer: its one cell at block p holds the slice v, which owns the bytes bs. -/
def Wr (w : World) (p : Nat) (v : Value) (bs : List Int) : Prop :=
  w.heap[p]? = some (.cells #[v] 55 (0, 0)) ∧ w.ownsRow (p + 1) 5 1 v bs.length (bs.map (Value.int .u8))

/-- One step of a writer: besides its cell and its row nothing old was changed; its row is the old one, or new. -/
def Step (p : Nat) (w : World) (v : Value) (w' : World) (v' : Value) : Prop :=
  Kp (p :: v.ownBlock.toList) w w' ∧ ∀ k, v'.ownBlock = some k → v.ownBlock = some k ∨ w.heap.size ≤ k

theorem Step.refl (p : Nat) (w : World) (v : Value) : Step p w v w v := ⟨Kp.refl _ _, fun _ h => .inl h⟩
theorem Step.trans {p : Nat} {a b c : World} {u v x : Value} (h : Step p a u b v) (k : Step p b v c x) : Step p a u c x := by
  refine ⟨h.1.then k.1 (fun i hi => ?_), fun i hi => ?_⟩
  · simp only [List.mem_cons, Option.mem_toList] at hi ⊢
    rcases hi with rfl | hi
    · exact .inl (.inl rfl)
    · rcases h.2 i hi with h1 | h1
      · exact .inl (.inr h1)
      · exact .inr h1
  · rcases k.2 i hi with h1 | h1
    · exact h.2 i h1
    · exact .inr (Nat.le_trans h.1.size h1)

theorem Wr.cell {w : World} {p : Nat} {v : Value} {bs : List Int} (h : Wr w p v bs) : w.cell? ⟨p, 0, none⟩ = some v := cell_of_one h.1
theorem Wr.free {w : World} {p : Nat} {v : Value} {bs : List Int} (h : Wr w p v bs) : w.frozen? ⟨p, 0, none⟩ = false := free_of_one h.1
theorem Wr.lt {w : World} {p : Nat} {v : Value} {bs : List Int} (h : Wr w p v bs) : p < w.heap.size := lt_of_block h.1
theorem Wr.ne {w : World} {p : Nat} {v : Value} {bs : List Int} (h : Wr w p v bs) : v.ownBlock ≠ some p := fun e => by have := h.2.lt p e; omega
theorem Wr.kept {w w' : World} {p : Nat} {v : Value} {bs : List Int} {S : List Nat} (h : Wr w p v bs) (k : Kp S w w') (hp : p ∉ S) (hv : ∀ i, v.ownBlock = some i → i ∉ S) : Wr w' p v bs :=
  ⟨k.heap h.1 hp, k.owns h.2 hv⟩

/-- behind an append and the store of its slice. -/
theorem wr_step {wr w0 w1 : World} {p g cap : Nat} {v : Value} {bs new : List Int} (h : Wr wr p v bs) (h0 : Kp [] wr w0)
    (hown : w1.ownsRow (p + 1) 5 1 (.slice (some ⟨g, 0, none⟩) (bs.length + new.length) cap) (bs.length + new.length) (bs.map (Value.int .u8) ++ new.map (Value.int .u8)))
    (hgrow : w0.grownBy w1 v.ownBlock) (hat : v.ownBlock = some g ∨ wr.heap.size ≤ g) :
    Wr (w1.setCell ⟨p, 0, none⟩ (.slice (some ⟨g, 0, none⟩) (bs.length + new.length) cap)) p (.slice (some ⟨g, 0, none⟩) (bs.length + new.length) cap) (bs ++ new) ∧
      Step p wr v (w1.setCell ⟨p, 0, none⟩ (.slice (some ⟨g, 0, none⟩) (bs.length + new.length) cap)) (.slice (some ⟨g, 0, none⟩) (bs.length + new.length) cap) := by
  have h1 : w1.heap[p]? = some (.cells #[v] 55 (0, 0)) := by
    rw [hgrow.block p (Nat.lt_of_lt_of_le h.lt h0.size) (Ne.symm h.ne)]
    exact h0.heap h.1 (by simp)
  refine ⟨⟨one_setCell h1, ?_⟩, ?_, ?_⟩
  · have := ownsRow_setCell_below hown (a := ⟨p, 0, none⟩) (by simp) (.slice (some ⟨g, 0, none⟩) (bs.length + new.length) cap)
    simpa using this
  · have k1 : Kp (p :: v.ownBlock.toList) wr w0 := h0.mono (by simp)
    have k2 := k1.grown hgrow (fun k hk => .inl (by simp [hk]))
    exact k2.setCell (p := ⟨p, 0, none⟩) (.inl (by simp)) _
  · intro k hk
    simp only [Value.ownBlock, Option.some.injEq] at hk
    subst hk
    exact hat

/-- Byte number j of n, counted from the lowest. -/
def byteAt (n : Int) (j : Nat) : Int := n / 256 ^ j % 256
/-- The lowest size bytes of n from the highest on, down to byte k. -/
def be (n : Int) (size k : Nat) : List Int := (List.range (size - k)).map fun t => byteAt n (size - 1 - t)
theorem be_none (n : Int) (size : Nat) : be n size size = [] := by simp [be]
theorem be_step (n : Int) (size j : Nat) (h : j + 1 ≤ size) : be n size j = be n size (j + 1) ++ [byteAt n j] := by
  unfold be
  rw [show size - j = (size - (j + 1)) + 1 from by omega, List.range_succ, List.map_append]
  simp only [List.map_cons, List.map_nil]
  rw [show size - 1 - (size - (j + 1)) = j from by omega]
theorem be_length (n : Int) (size k : Nat) : (be n size k).length = size - k := by simp [be]
theorem byte_wrap (n : Int) (j : Nat) : IntKind.u8.wrap (n / 2 ^ (8 * (j : Int)).toNat) = byteAt n j := by
  have e : (8 * (j : Int)).toNat = 8 * j := by omega
  rw [e, Int.pow_mul]
  simp [IntKind.wrap, IntKind.signed, IntKind.bits, byteAt]

theorem new_any (w : World) : Calls Try.prog 9 #[] w fun e w' => e = .returned (.pointer (some ⟨w.heap.size, 0, none⟩)) ∧ w' = w.alloc (.cells #[.slice none 0 0] 55) := by
  go_enter Try.func9, Try.ntmps9
  go_wp2
  go_ret
  exact ⟨rfl, rfl⟩
theorem wr_new (w : World) : Wr (w.alloc (.cells #[.slice none 0 0] 55)) w.heap.size (.slice none 0 0) [] :=
  ⟨heap_alloc_new w _, World.ownsRow_nil _ _ _ _⟩
/-- New, told without its world. -/
theorem new_abs (w : World) : Calls Try.prog 9 #[] w fun e w' => ∃ p, e = .returned (.pointer (some ⟨p, 0, none⟩)) ∧ Wr w' p (.slice none 0 0) [] ∧ w.heap.size ≤ p ∧ Kp [] w w' :=
  (new_any w).mono fun _ _ ⟨h1, h2⟩ => ⟨w.heap.size, h1, h2 ▸ wr_new w, Nat.le_refl _, h2 ▸ (Kp.refl [] w).alloc _⟩

set_option maxHeartbeats 400000 in
theorem number_any (p : Nat) (n : Int) (size : Nat) (v : Value) (bs : List Int) (w : World) (hw : Wr w p v bs) (hs : size ≤ 4) (hb : bs.length ≤ 100000000000000) :
    Calls Try.prog 30 #[.pointer (some ⟨p, 0, none⟩), .int .u32 n, .int .i64 size] w fun e w' => e = .returned (.tuple #[]) ∧ ∃ v', Wr w' p v' (bs ++ be n size 0) ∧ Step p w v w' v' := by
  obtain ⟨i0, hi0, hz0, hz1, hz2⟩ := info_parts Try.info5
  go_enter Try.func30, Try.ntmps30
  go_wp2
  go_loopw [6] (fun i wr => ∃ k : Nat, k ≤ size ∧ i = .int .i64 ((k : Int) - 1) ∧ ∃ v', Wr wr p v' (bs ++ be n size k) ∧ Step p w v wr v') (fun i _ => (intOf i + 1).toNat)
  case atStart => exact ⟨size, Nat.le_refl _, rfl, v, by rw [be_none, List.append_nil]; exact hw, Step.refl _ _ _⟩
  case round =>
    obtain ⟨k, hk, rfl, v', hw', hst⟩ := hrel
    by_cases hk0 : 0 < k
    · obtain ⟨j, rfl⟩ : ∃ j : Nat, k = j + 1 := ⟨k - 1, by omega⟩
      obtain ⟨cs, hcs⟩ : ∃ cs, cs = bs ++ be n size (j + 1) := ⟨_, rfl⟩
      rw [← hcs] at hw'
      have hlen : cs.length ≤ 100000000000004 := by rw [hcs, List.length_append, be_length]; omega
      have HC : Hid (cs = bs ++ be n size (j + 1)) := hcs
      clear hcs
      have hc := hw'.cell
      have hf := hw'.free
      have hown := hw'.2
      have hlt := hw'.lt
      have hfa : ∀ o, (wr.alloc o).frozen? ⟨p, 0, none⟩ = false := fun o => by rw [World.frozen?_alloc_old _ _ _ (by simp; omega)]; exact hf
      have hca : ∀ o, (wr.alloc o).cell? ⟨p, 0, none⟩ = some v' := fun o => (World.cell?_alloc_lt _ _ _ (by exact hlt)).trans hc
      have hne := hw'.ne
      have hwrp : IntKind.i64.wrap (8 * (j : Int)) = 8 * (j : Int) := by simp [IntKind.wrap, IntKind.signed, IntKind.bits]; omega
      have hj0 : (0 : Int) ≤ 8 * (j : Int) := by omega
      have hj1 : 8 * (j : Int) ≤ 32 := by omega
      have hbw := byte_wrap n j
      go_wp2
      go_region_law ((refine step_append_lies _ (by rfl) _ _ _ (by rfl) (p + 1) 5 i0 _ 1 1 Try.underlying25 hi0 hz0 hz1 hz2 rfl (by omega) v' _ _ (by rfl) ((hown.alloc _).drew) ⟨wr.heap.size, 0, none⟩ 1 1 [.int .u8 (byteAt n j)] (by rfl) (by rfl) (World.news_of_block (cs := #[.int .u8 (byteAt n j)]) (t := 5) (fr := (0, 0)) (heap_alloc_new wr _)) (by simp [Value.oneCell']) (by omega) (by unfold maxLen; omega) (by omega) (by simp; omega) (wr.heap.size + 1) (by simp) ?_; intro gg cap w1 hown1 hgrow hat hltg; have hc1 : w1.cell? ⟨p, 0, none⟩ = some v' := (by rw [hgrow.cell_far _ (by simp; omega) (Ne.symm hne)]; simpa using hca _); have hf1 : w1.frozen? ⟨p, 0, none⟩ = false := (by rw [hgrow.frozen_far _ (by simp; omega) (Ne.symm hne)]; simpa using hfa _)))
      all_goals
        have R := wr_step (new := [byteAt n j]) hw' (((Kp.refl [] wr).alloc _).drew) hown1 hgrow (hat.imp id (fun e => by omega))
        clear hown1 hgrow hat hltg hown hc hf hfa hca hne hc1 hf1
        go_wp2
        go_roundw
        case rel => exact ⟨j, by omega, by go_num, _, by rw [be_step n size j hk, ← List.append_assoc, ← HC.out]; exact R.1, hst.trans R.2⟩
        case measure => simp [intOf]
    · obtain rfl : k = 0 := by omega
      go_wp2
      go_end0
      exact ⟨rfl, v', hw', hst⟩

theorem num_any (p : Nat) (n : Int) (v : Value) (bs : List Int) (w : World) (hw : Wr w p v bs) (hb : bs.length ≤ 100000000000000) :
    Calls Try.prog 35 #[.pointer (some ⟨p, 0, none⟩), .int .u32 n] w fun e w' => e = .returned (.tuple #[]) ∧ ∃ v', Wr w' p v' (bs ++ be n 4 0) ∧ Step p w v w' v' := by
  go_enter Try.func35, Try.ntmps35
  go_wp2_with (go_at_call 30; refine (number_any p n 4 v bs _ hw (by omega) hb).mono ?_; rintro e w' ⟨rfl, v', h1, h2⟩)
  go_end0
  exact ⟨rfl, v', h1, h2⟩
end Go.Proofs.Ythpekclkclpbpaa
