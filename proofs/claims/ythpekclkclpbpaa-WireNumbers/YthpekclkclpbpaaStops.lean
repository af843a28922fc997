/-
  The contract of Each where a text is too long, slices that make lays, and asks and texts that a literal lays, over this seat's program.
-/
import Derived.Test.YthpekclkclpbpaaRoomy
namespace Go.Proofs.Ythpekclkclpbpaa
open Go.RowKit

theorem Lists.get {w : World} {al : Option Addr} {n cl : Nat} {l : List (Value × List Int)} (h : Lists w (.slice al n cl) l) : ∀ i (h : i < l.length), ∃ b off, al = some ⟨b, off, none⟩ ∧ w.cell? ⟨b, off + i, none⟩ = some l[i].1 ∧ Sl w l[i].1 l[i].2 ∧ Bs l[i].2 := by
  obtain ⟨_, _, e, _, h2⟩ := h
  cases e
  exact h2

set_option maxHeartbeats 400000 in
theorem all_stop (p : Nat) (v : Value) (bs : List Int) (vl : Value) (l : List (Value × List Int)) (m : Nat) (w : World) (hw : Wr w p v bs) (hL : ∀ W, Kp (p :: v.ownBlock.toList) w W → Lists W vl l)
    (hml : m ≤ l.length) (hm : ∀ x ∈ l.take m, x.2.length ≤ 1000) (hlong : ∀ h : m < l.length, 65535 < l[m].2.length) (hn : l.length ≤ 1000) (hb : bs.length ≤ 1000000000) :
    Calls Try.prog 33 #[vl, Value.func (Fn.func 10) #[.pointer (some ⟨p, 0, none⟩)] #[]] w fun e w' => e = .returned (.bool (decide (m = l.length))) ∧ ∃ v', Wr w' p v' (bs ++ encs ((l.take m).map (·.2))) ∧ Step p w v w' v' := by
  obtain ⟨al, cl, rfl⟩ : ∃ al cl, vl = .slice al l.length cl := by obtain ⟨a, c, e, _⟩ := hL w (Kp.refl _ _); exact ⟨a, c, e⟩
  have hlen : (l.length : Int) ≤ 1000 := by omega
  have HL := hide hL
  clear hL
  go_enter Try.func33, Try.ntmps33
  go_wp2_with fail
  go_loopw [9] (fun i wr => ∃ k : Nat, k ≤ m ∧ i = .int .i64 k ∧ ∃ v', Wr wr p v' (bs ++ encs ((l.take k).map (·.2))) ∧ Step p w v wr v') (fun i _ => l.length - (intOf i).toNat)
  case atStart => exact ⟨0, Nat.zero_le _, rfl, v, by simpa [encs] using hw, Step.refl _ _ _⟩
  case round =>
    obtain ⟨k, hk, rfl, v', hw', hst⟩ := hrel
    by_cases hltl : k < l.length
    · have hlt3 : (k : Int) < (l.length : Int) := by omega
      obtain ⟨b, off, hal, hcw, hSw, hB⟩ := (unhide HL wr hst.1).get k hltl
      have hE := encs_take l k hltl
      have hSk0 : ∀ w1, Kp (p :: v.ownBlock.toList) w w1 → Sl w1 l[k].1 l[k].2 := fun w1 h1 => by
        obtain ⟨_, _, _, _, h, _⟩ := (unhide HL w1 h1).get k hltl
        exact h
      subst hal
      obtain ⟨x, hx⟩ : ∃ x, x = l[k] := ⟨_, rfl⟩
      rw [← hx] at hcw hSw hB hE hSk0
      obtain ⟨ax, cx, hxv⟩ : ∃ ax cx, x.1 = .slice ax x.2.length cx := by obtain ⟨ax, cx, e, _⟩ := hSw; exact ⟨ax, cx, e⟩
      by_cases hlt : k < m
      · have hle := encs_len (l.take m) 1000 k hm
        rw [List.take_take, show min k m = k from by omega] at hle
        have hml' := hm x (by rw [hx]; rw [show l[k] = (l.take m)[k]'(by simp; omega) from by simp]; exact List.getElem_mem _)
        have hSk : ∀ w1, Kp (p :: v'.ownBlock.toList) wr w1 → Sl w1 (.slice ax x.2.length cx) x.2 := fun w1 hw1 => by
          rw [← hxv]
          refine hSk0 w1 (hst.1.then hw1 (fun i hi => ?_))
          simp only [List.mem_cons, Option.mem_toList] at hi ⊢
          rcases hi with rfl | hi
          · exact .inl (.inl rfl)
          · rcases hst.2 i hi with e | e
            · exact .inl (.inr e)
            · exact .inr e
        rw [hxv] at hSw
        have HK := hide hSk
        have HST := hide hst
        have HE := hide hE
        clear hE hx hSk hst hlong hSk0
        go_wp2_with fail
        refine (bytes_ok p v' _ _ x.2 _ hw' hSw (unhide HK) (by rw [List.length_append]; omega) (by omega)).mono ?_
        rintro e w2 ⟨rfl, v2, a2, s2⟩
        have R : Wr w2 p v2 (bs ++ encs ((l.take (k + 1)).map (·.2))) := by
          rw [unhide HE]
          simpa only [List.append_assoc] using a2
        clear hSw hcw hw' a2
        go_wp2_with fail
        go_roundw
        case rel => exact ⟨k + 1, by omega, by go_num, v2, R, (unhide HST).trans s2⟩
        case measure => simp [intOf]; omega
      · obtain rfl : k = m := by omega
        have hlong' : 65535 < x.2.length := by rw [hx]; exact hlong hltl
        have hdec : decide (k = l.length) = false := by simp; omega
        rw [hxv] at hSw
        have HLO := hide hlong'
        clear hE hx hlong hlong' hSk0
        go_wp2_with fail
        refine (bytes_no p _ x.2 _ hSw (unhide HLO)).mono ?_
        rintro e w2 ⟨rfl, hw2⟩
        subst w2
        go_wp2_with fail
        go_ret
        exact ⟨(congrArg (fun b => Ending.returned (.bool b)) hdec).symm, v', hw', hst⟩
    · obtain rfl : k = l.length := by omega
      obtain rfl : m = l.length := by omega
      have hdec : decide (l.length = l.length) = true := by simp
      clear hlong
      rw [List.take_length] at hw'
      go_wp2_with fail
      go_ret
      exact ⟨(congrArg (fun b => Ending.returned (.bool b)) hdec).symm, v', hw', hst⟩

theorem each_stop (p : Nat) (v : Value) (bs : List Int) (vl : Value) (l : List (Value × List Int)) (m : Nat) (w : World) (hw : Wr w p v bs) (hL : ∀ W, Kp (p :: v.ownBlock.toList) w W → Lists W vl l)
    (hml : m ≤ l.length) (hm : ∀ x ∈ l.take m, x.2.length ≤ 1000) (hlong : ∀ h : m < l.length, 65535 < l[m].2.length) (hn : l.length ≤ 1000) (hb : bs.length ≤ 1000000000) :
    Calls Try.prog 12 #[.pointer (some ⟨p, 0, none⟩), vl] w fun e w' => e = .returned (.bool (decide (m = l.length))) ∧ ∃ v', Wr w' p v' (bs ++ encs ((l.take m).map (·.2))) ∧ Step p w v w' v' := by
  go_enter Try.func12, Try.ntmps12
  go_wp2_with fail
  refine (all_stop p v bs vl l m _ hw hL hml hm hlong hn hb).mono ?_
  rintro e w1 ⟨rfl, v1, h1, h2⟩
  go_wp2_with fail
  go_ret
  exact ⟨rfl, v1, h1, h2⟩

theorem made_ints (n : Nat) : (madeCells (Value.int .u8 0).cells (n * 1)).toList = ((List.range n).map fun _ => (0 : Int)).map (Value.int .u8) := by
  unfold madeCells
  rw [Nat.mul_one]
  simp only [Array.toList_map, Array.toList_range, List.map_map]
  refine List.map_congr_left fun i _ => ?_
  simp [Value.cells, Nat.mod_one]
theorem made_run (w : World) (n : Nat) (hn : n ≤ 100000) : ∃ w' cs, (Instr.makeSlice 25 (.int .i64 (n : Int)) (.int .i64 (n : Int))).run Try.prog w = .ok (.slice (some ⟨w.heap.size, 0, none⟩) n n) w' ∧ Sl w' (.slice (some ⟨w.heap.size, 0, none⟩) n n) cs ∧ cs.length = n ∧ Bs cs ∧ Kp [] w w' ∧ w.heap.size < w'.heap.size := by
  obtain ⟨i0, hi0, hz0, hz1, hz2⟩ := info_parts Try.info5
  obtain ⟨w', hr, h1, h2⟩ := run_make_full (P := Try.prog) w w.heap.size 25 5 i0 (.int .u8 0) 1 Try.underlying25 hi0 hz0 hz1 .i64 .i64 n (by rw [hz2]; omega) (by unfold maxLen; omega) (Nat.le_refl _)
  rw [made_ints] at h1
  refine ⟨w', _, hr, Sl.of_owns h1, by simp, fun b hb => ?_, (Kp.refl [] w).grown h2 (by intro k hk; cases hk), (h1.lt _ rfl).2⟩
  obtain ⟨_, _, rfl⟩ := List.mem_map.1 hb
  omega

theorem lists_of_block {w : World} {g : Nat} {l : List (Value × List Int)} {t : TypeId} {fr : Nat × Nat} (hg : w.heap[g]? = some (.cells (l.map (·.1)).toArray t fr)) (hl : l.length ≤ 1000) (hS : ∀ x ∈ l, Sl w x.1 x.2 ∧ Bs x.2) : Lists w (.slice (some ⟨g, 0, none⟩) l.length l.length) l := by
  refine ⟨_, _, rfl, by omega, fun i hi => ⟨g, 0, rfl, ?_, (hS _ (List.getElem_mem hi)).1, (hS _ (List.getElem_mem hi)).2⟩⟩
  rw [cell_of_row w g (0 + i) _ t fr hg]
  simp [List.getElem?_eq_getElem hi]
/-- the four cells of an ask. -/
def cells4 (x : AskD) : List Value := [.int .i64 x.kind, .int .i64 x.most, .int .u32 x.n, x.v]
theorem cells4_at (l : List AskD) (i j : Nat) (hi : i < l.length) (hj : j < 4) : (l.flatMap cells4)[i * 4 + j]? = (cells4 l[i])[j]? := by
  induction l generalizing i with
  | nil => cases hi
  | cons x l ih =>
    rw [List.flatMap_cons]
    cases i with
    | zero => rw [List.getElem?_append_left (by simp [cells4]; omega)]; simp
    | succ i =>
      rw [List.getElem?_append_right (by simp [cells4]; omega)]
      have : (i + 1) * 4 + j - (cells4 x).length = i * 4 + j := by simp [cells4]; omega
      rw [this, ih i (by simpa using hi)]
      simp
theorem asks_of_block {w : World} {g : Nat} {l : List AskD} {t : TypeId} {fr : Nat × Nat} (hg : w.heap[g]? = some (.cells (l.flatMap cells4).toArray t fr)) (hl : l.length ≤ 1000)
    (hS : ∀ x ∈ l, Sl w x.v x.bs ∧ Bs x.bs ∧ (0 ≤ x.n ∧ x.n ≤ 4294967295) ∧ (-9223372036854775808 ≤ x.most ∧ x.most ≤ 9223372036854775807)) : Asks w (.slice (some ⟨g, 0, none⟩) l.length l.length) l := by
  refine ⟨_, _, rfl, by omega, fun i hi => ⟨g, 0, rfl, ?_⟩⟩
  obtain ⟨h1, h2, h3, h4⟩ := hS _ (List.getElem_mem hi)
  have key : ∀ j, j < 4 → w.cell? ⟨g, 0 + i * 4 + j, none⟩ = (cells4 l[i])[j]? := fun j hj => by
    rw [cell_of_row w g _ _ t fr hg, ← cells4_at l i j hi hj, Nat.zero_add]; simp
  exact ⟨by simpa [cells4] using key 0 (by omega), by simpa [cells4] using key 1 (by omega), by simpa [cells4] using key 2 (by omega), by simpa [cells4] using key 3 (by omega), h1, h2, h3, h4⟩
end Go.Proofs.Ythpekclkclpbpaa
