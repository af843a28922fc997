/-
  The contract of the law package's helper Sized, of 31 bytes.
-/
import Derived.Test.YtdjofooggofpkaaDoorKLMore
namespace Go.Proofs.YtdjofooggofpkaaDoor
open Go.RowKit
open Go.Proofs

theorem made_zero31 : (madeCells (Value.int .u8 0).cells (31 * 1)).toList = (List.replicate 31 (0 : Int)).map (Value.int .u8) := by
  rw [List.map_replicate]
  exact toList_madeCells_one (.int .u8 0) 31
theorem splice_zero31 (bs : List Int) : splice ((List.replicate 31 (0 : Int)).map (Value.int .u8)) 0 ((bs.take 31).map (Value.int .u8)) = (bs.take 31 ++ List.replicate (31 - (bs.take 31).length) 0).map (Value.int .u8) := by
  unfold splice
  rw [List.take_zero, List.nil_append, List.map_append, ← List.map_drop, List.drop_replicate]
  congr 3
  simp
set_option maxRecDepth 100000 in
set_option maxHeartbeats 1000000 in
theorem sized31_any (v : Value) (bs : List Int) (w : World) (hS : Sl w v bs) (hB : Bs bs) :
    Calls Tryd.prog 26 #[v, .int .i64 31] w fun e w' => ∃ g bs', e = .returned (.slice (some ⟨g, 0, none⟩) 31 31) ∧ bs'.length = 31 ∧ Bs bs' ∧ Row w' w.heap.size (.slice (some ⟨g, 0, none⟩) 31 31) bs' ∧ Kp [] w w' := by
  obtain ⟨i0, hi0, hz0, hz1, hz2⟩ := info_parts Tryd.info5
  obtain ⟨ao, c, rfl, h1, h2, h3, h4⟩ := hS
  obtain ⟨cs, hcs⟩ : ∃ cs, cs = (bs.take 31).map (Value.int .u8) := ⟨_, rfl⟩
  have hcl : cs.length = min bs.length 31 := by rw [hcs]; simp; omega
  have hone : ∀ u ∈ cs, u.oneCell' = true := by
    rw [hcs]
    intro u hu
    obtain ⟨x, _, rfl⟩ := List.mem_map.1 hu
    rfl
  have hsrc : Hid (∀ a, ao = some a → ∀ j u, cs[j]? = some u → w.cell? (a.add j) = some u) := by
    rw [hcs]
    intro a ha j u hu
    refine h4 a ha j u ?_
    rw [List.map_take, List.getElem?_take] at hu
    split at hu
    · exact hu
    · cases hu
  have HC := hide hcs
  have HCL := hide hcl
  have HB := hide hB
  obtain ⟨nb, hnb⟩ : ∃ n, n = bs.length := ⟨_, rfl⟩
  rw [← hnb] at h1 HCL ⊢
  clear h4 hcs hcl hB hnb
  go_enter Tryd.func26, Tryd.ntmps26
  have hszi : (Tryd.prog.info? 5).map (·.size) = some 1 := by rw [hi0]; simp [hz1]
  go_wp2_with (at_make; refine wpList_make_full _ rfl _ _ 24 rfl w.heap.size 5 i0 (.int .u8 0) 1 Tryd.underlying24 hi0 hz0 hz1 .i64 .i64 _ _ 31 rfl rfl (by omega) (by omega) (by rw [hz2]; omega) (by unfold maxLen; omega) (Nat.le_refl _) ?_; intro w1 o1 g1; refine Hid.out ?_)
  rw [made_zero31] at o1
  have hcur := hide (made_all o1)
  have B1 : Below w.heap.size w w1 := (Below.refl _ _).grown g1 (Nat.le_refl _) (by intro k hk; cases hk)
  have HB1 := hide B1
  obtain ⟨zs, hzs⟩ : ∃ zs, zs = (List.replicate 31 (0 : Int)).map (Value.int .u8) := ⟨_, rfl⟩
  rw [← hzs] at hcur
  have HZ := hide hzs
  have HZL : Hid (zs.length = 31) := hide (by rw [hzs]; simp)
  clear o1 g1 B1 hzs
  refine hide ?_
  go_wp2_with (refine wpList_copy_splice rfl (.tmp 8) (.tmp 9) 24 24 rfl 5 Tryd.underlying24 hszi (some ⟨w.heap.size, 0, none⟩) ao 31 31 nb c rfl rfl w.heap.size 0 zs 5 (unhide hcur) cs (by have := unhide HCL; unfold Nat.min at *; omega) (fun hpos => ⟨rfl, copy_src (unhide HB1) (unhide hsrc) (h3) (by have := unhide HCL; omega)⟩) (by have := unhide HCL; have := unhide HZL; omega) hone w.heap.size w (unhide HB1) (Nat.le_refl _) ?_; intro w2 H2 B2; refine Hid.out ?_)
  have hbl : (bs.take 31 ++ List.replicate (31 - (bs.take 31).length) (0 : Int)).length = 31 := by simp; omega
  have hrow : Row w2 w.heap.size (.slice (some ⟨w.heap.size, 0, none⟩) 31 31) (bs.take 31 ++ List.replicate (31 - (bs.take 31).length) 0) := by
    have := H2.out
    rw [unhide HZ, unhide HC, splice_zero31] at this
    exact row_of_block (Nat.le_refl _) this hbl (by unfold maxLen; omega)
  have hbb : Bs (bs.take 31 ++ List.replicate (31 - (bs.take 31).length) (0 : Int)) := by
    intro b hb
    rcases List.mem_append.1 hb with h | h
    · exact (unhide HB).take 31 b h
    · rw [List.eq_of_mem_replicate h]; omega
  have HRW := hide hrow
  have HBB := hide hbb
  have HBL := hide hbl
  have HK2 := hide (Kp.of_below B2)
  clear hrow hbb hbl H2 B2
  refine hide ?_
  go_wp2_with fail
  go_ret
  exact ⟨_, _, rfl, unhide HBL, unhide HBB, unhide HRW, unhide HK2⟩
end Go.Proofs.YtdjofooggofpkaaDoor
