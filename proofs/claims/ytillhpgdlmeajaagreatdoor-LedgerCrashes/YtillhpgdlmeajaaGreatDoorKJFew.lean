/-
  Few of the law package, plainly; what the laws of the journal share.
-/
import Derived.Test.YtillhpgdlmeajaaGreatDoorKJLaw
import Derived.Test.YtillhpgdlmeajaaGreatDoorKLSpot
import Derived.Test.YtillhpgdlmeajaaGreatDoorKOKeeps
import Derived.Laws.OwnMore
namespace Go.Proofs.YtillhpgdlmeajaaGreatDoor
open Go.RowKit
open Go.Proofs

theorem Lists.at {w : World} {v : Value} {l : List (Value × List Int)} (h : Lists w v l) (x : Value × List Int) (hx : x ∈ l) : Sl w x.1 x.2 ∧ Bs x.2 := by
  obtain ⟨_, _, _, _, hc⟩ := h
  obtain ⟨i, hi, rfl⟩ := List.getElem_of_mem hx
  obtain ⟨_, _, _, _, h1, h2⟩ := hc i hi
  exact ⟨h1, h2⟩
theorem lay_len (la : List (Value × List Int)) (n most : Nat) (h1 : la.length ≤ n) (h2 : ∀ x ∈ la, x.2.length ≤ most) : (layP (la.map (·.2))).length ≤ n * (8 + most) := by
  have h := layP_len (la.map (·.2)) most (fun r hr => by
    obtain ⟨x, hx, rfl⟩ := List.mem_map.1 hr
    exact h2 x hx)
  rw [List.length_map] at h
  exact Nat.le_trans h (Nat.mul_le_mul_right _ h1)
theorem lay_bs {w : World} {v : Value} {la : List (Value × List Int)} (h : Lists w v la) : Bs (layP (la.map (·.2))) := layP_bs (fun r hr => by
  obtain ⟨x, hx, rfl⟩ := List.mem_map.1 hr
  exact (h.at x hx).2)
/-- a new row without cells. -/
theorem row_none (w : World) : Row (w.alloc (.cells #[] 5)) w.heap.size (.slice (some ⟨w.heap.size, 0, none⟩) 0 0) [] := World.ownsRow_made w #[] 0 (Nat.le_refl _) (by simp [maxLen]) rfl
/-- a byte xored stays one. -/
theorem xor8 (x y : Int) : 0 ≤ bits .xor .u8 x y ∧ bits .xor .u8 x y ≤ 255 := by
  unfold bits
  simp [IntKind.wrap, IntKind.signed, IntKind.bits]
  omega
/-- an operation behind a guard that stands open. -/
theorem wpList_wanted {P : Program} {ops : Array Oper} {Q : Exit → Act → World → Prop} {a : Act} {w : World} {rest : List Oper} {o : Oper} (hw : Region.wanted o (yielded ops a.tmps) = true) (h : wpList P ops Q ({ o with guard := none } :: rest) a w) : wpList P ops Q (o :: rest) a w := by
  unfold wpList at h ⊢
  have h0 : Region.wanted { o with guard := none } (yielded ops a.tmps) = true := rfl
  rw [if_pos h0] at h
  rw [if_pos hw]
  exact h
theorem make_j (w : World) (n : Nat) (hn : n ≤ 1000000) : ∃ w', (Instr.makeSlice 22 (.int .i64 n) (.int .i64 n)).run Tryz.prog w = .ok (.slice (some ⟨w.heap.size, 0, none⟩) n n) w' ∧ Sl w' (.slice (some ⟨w.heap.size, 0, none⟩) n n) (List.replicate n 0) ∧ Kp [] w w' := by
  obtain ⟨i0, hi0, hz0, hz1, hz2⟩ := info_parts Tryz.info5
  obtain ⟨w', hrun, hrow, hgb⟩ := run_make_full (P := Tryz.prog) w w.heap.size 22 5 i0 (.int .u8 0) 1 Tryz.underlying22 hi0 hz0 hz1 .i64 .i64 n (by rw [hz2]; omega) (by unfold maxLen; omega) (Nat.le_refl _)
  refine ⟨w', hrun, ?_, (Kp.refl [] w).grown hgb (by intro k hk; cases hk)⟩
  have e : (madeCells (Value.int .u8 0).cells (n * 1)).toList = (List.replicate n (0 : Int)).map (Value.int .u8) := by
    rw [Nat.mul_one]; show (madeCells #[Value.int .u8 0] n).toList = _
    rw [toList_madeCells_one]; simp
  rw [e] at hrow
  exact Sl.of_owns (by simpa using hrow)
end Go.Proofs.YtillhpgdlmeajaaGreatDoor
