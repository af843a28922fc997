/-
  A signature that is written is read again: the plain form, and Decode with memory of its own; the law package's Sized at a signature's size.
-/
import Derived.Test.YtdjofooggofpkaaDoorKSCode
import Derived.Test.YtdjofooggofpkaaDoorKOMore
namespace Go.Proofs.YtdjofooggofpkaaDoor
open Go.ChangeShapes Go.WideShapes Go.ChangeAt Go.RowKit
open Go.Deep
open Go.Proofs

theorem sb_flat_len (ps : List (List Int)) (h : ∀ x ∈ ps, x.length = 32) : ps.flatten.length = 32 * ps.length := by
  induction ps with
  | nil => rfl
  | cons a l ih => rw [List.flatten_cons, List.length_append, h a (by simp), ih (fun x hx => h x (by simp [hx])), List.length_cons]; omega
theorem sb_flat_drop (ps : List (List Int)) (h : ∀ x ∈ ps, x.length = 32) (r : List Int) : ∀ n, n ≤ ps.length → (ps.flatten ++ r).drop (32 * n) = (ps.drop n).flatten ++ r := by
  induction ps with
  | nil => intro n hn; have : n = 0 := by simpa using hn
           subst this; simp
  | cons a l ih =>
    intro n hn
    cases n with
    | zero => simp
    | succ n =>
      have ha : a.length = 32 := h a (by simp)
      rw [show 32 * (n + 1) = a.length + 32 * n by omega, List.flatten_cons, List.append_assoc, ← List.drop_drop, List.drop_left, ih (fun x hx => h x (by simp [hx])) n (by simpa using hn)]
      rfl
theorem sb_chP_flat (ps : List (List Int)) (h : ∀ x ∈ ps, x.length = 32) (r : List Int) (n : Nat) (hn : ps.length = n) : chP n (ps.flatten ++ r) = ps := by
  apply List.ext_getElem
  · rw [chP_len, hn]
  · intro j h1 h2
    have : (ps.drop j).flatten = ps[j] ++ (ps.drop (j + 1)).flatten := by rw [List.drop_eq_getElem_cons h2, List.flatten_cons]
    simp only [chP, List.getElem_map, List.getElem_range]
    rw [sb_flat_drop ps h r j (by omega), this, List.append_assoc, ← h ps[j] (List.getElem_mem h2), List.take_left]
theorem encP_len (i : Int) (ps qs : List (List Int)) (hr : rgtP i ps qs = true) : (encP i ps qs).length = 2180 := by
  obtain ⟨_, ⟨h1, h2⟩, h3, h4⟩ := (rgtP_iff _ _ _).1 hr
  unfold encP
  rw [List.length_append, List.length_append, be4_len, sb_flat_len _ h2, sb_flat_len _ h4, h1, h3]
theorem encP_back (i : Int) (ps qs : List (List Int)) (hr : rgtP i ps qs = true) : decOk (encP i ps qs) = true ∧ val ((encP i ps qs).take 4) = i ∧ chP 64 ((encP i ps qs).drop 4) = ps ∧ chP 4 ((encP i ps qs).drop 2052) = qs := by
  have hl := encP_len i ps qs hr
  obtain ⟨⟨hi0, hi1⟩, ⟨h1, h2⟩, h3, h4⟩ := (rgtP_iff _ _ _).1 hr
  have e1 : (encP i ps qs).take 4 = be4 i := by unfold encP; rw [← be4_len i, List.take_left]
  have e2 : (encP i ps qs).drop 4 = ps.flatten ++ qs.flatten := by unfold encP; rw [← be4_len i, List.drop_left]
  have e3 : (encP i ps qs).drop 2052 = qs.flatten ++ [] := by
    rw [show 2052 = 4 + 2048 from rfl, ← List.drop_drop, e2, show 2048 = ps.flatten.length by rw [sb_flat_len _ h2, h1], List.drop_left, List.append_nil]
  have e4 : val (be4 i) = i := by
    obtain ⟨k, rfl⟩ := Int.eq_ofNat_of_zero_le hi0
    have : k < 16 := by omega
    have key : ∀ k : Nat, k < 16 → val (be4 (k : Int)) = (k : Int) := by decide
    exact key k this
  refine ⟨?_, by rw [e1, e4], by rw [e2, sb_chP_flat _ h2 _ _ h1], by rw [e3, sb_chP_flat _ h4 _ _ h3]⟩
  unfold decOk
  rw [hl, e1, e4]
  simp [hi1]
theorem encP_bs (i : Int) (ps qs : List (List Int)) (hr : rgtP i ps qs = true) (hp : ∀ x ∈ ps, Bs x) (hq : ∀ x ∈ qs, Bs x) : Bs (encP i ps qs) := by
  obtain ⟨⟨hi0, hi1⟩, _, _⟩ := (rgtP_iff _ _ _).1 hr
  intro b hb
  unfold encP at hb
  rcases List.mem_append.1 hb with h | h
  · obtain ⟨k, rfl⟩ := Int.eq_ofNat_of_zero_le hi0
    have key : ∀ k : Nat, k < 16 → ∀ b ∈ be4 (k : Int), 0 ≤ b ∧ b ≤ 255 := by decide
    exact key k (by omega) b h
  · rcases List.mem_append.1 h with h | h
    · obtain ⟨x, hx, hb⟩ := List.mem_flatten.1 h; exact hp x hx b hb
    · obtain ⟨x, hx, hb⟩ := List.mem_flatten.1 h; exact hq x hx b hb

theorem made_sig : (madeCells (Value.int .u8 0).cells (2180 * 1)).toList = (List.replicate 2180 (0 : Int)).map (Value.int .u8) := by
  rw [List.map_replicate]
  exact toList_madeCells_one (.int .u8 0) 2180
theorem splice_sig (bs : List Int) : splice ((List.replicate 2180 (0 : Int)).map (Value.int .u8)) 0 ((bs.take 2180).map (Value.int .u8)) = (bs.take 2180 ++ List.replicate (2180 - (bs.take 2180).length) 0).map (Value.int .u8) := by
  unfold splice
  rw [List.take_zero, List.nil_append, List.map_append, ← List.map_drop, List.drop_replicate]
  congr 3
  simp

set_option maxRecDepth 100000 in
set_option maxHeartbeats 1000000 in
theorem sized_sig (v : Value) (bs : List Int) (w : World) (hS : Sl w v bs) (hB : Bs bs) :
    Calls Tryd.prog 26 #[v, .int .i64 2180] w fun e w' => ∃ g bs', e = .returned (.slice (some ⟨g, 0, none⟩) 2180 2180) ∧ bs'.length = 2180 ∧ Bs bs' ∧ Row w' w.heap.size (.slice (some ⟨g, 0, none⟩) 2180 2180) bs' ∧ Kp [] w w' := by
  obtain ⟨i0, hi0, hz0, hz1, hz2⟩ := info_parts Tryd.info5
  obtain ⟨ao, c, rfl, h1, h2, h3, h4⟩ := hS
  obtain ⟨cs, hcs⟩ : ∃ cs, cs = (bs.take 2180).map (Value.int .u8) := ⟨_, rfl⟩
  have hcl : cs.length = min bs.length 2180 := by rw [hcs]; simp; omega
  have hone : ∀ u ∈ cs, u.oneCell' = true := by
    rw [hcs]
    intro u hu
    obtain ⟨x, _, rfl⟩ := List.mem_map.1 hu
    rfl
  have hsrc : Hid (∀ a, ao = some a → ∀ j u, cs[j]? = some u → w.cell? (a.add j) = some u) := by
    rw [hcs]
    intro a ha j u hu
    refine h4 a ha j u ?_
    rw [List.map_take, List.getElem?_take] at hu
    split at hu
    · exact hu
    · cases hu
  have HC := hide hcs
  have HCL := hide hcl
  have HB := hide hB
  obtain ⟨nb, hnb⟩ : ∃ n, n = bs.length := ⟨_, rfl⟩
  rw [← hnb] at h1 HCL ⊢
  clear h4 hcs hcl hB hnb
  go_enter Tryd.func26, Tryd.ntmps26
  have hszi : (Tryd.prog.info? 5).map (·.size) = some 1 := by rw [hi0]; simp [hz1]
  go_wp2_with (at_make; refine wpList_make_full _ rfl _ _ 24 rfl w.heap.size 5 i0 (.int .u8 0) 1 Tryd.underlying24 hi0 hz0 hz1 .i64 .i64 _ _ 2180 rfl rfl (by omega) (by omega) (by rw [hz2]; omega) (by unfold maxLen; omega) (Nat.le_refl _) ?_; intro w1 o1 g1; refine Hid.out ?_)
  rw [made_sig] at o1
  have hcur := hide (made_all o1)
  have B1 : Below w.heap.size w w1 := (Below.refl _ _).grown g1 (Nat.le_refl _) (by intro k hk; cases hk)
  have HB1 := hide B1
  obtain ⟨zs, hzs⟩ : ∃ zs, zs = (List.replicate 2180 (0 : Int)).map (Value.int .u8) := ⟨_, rfl⟩
  rw [← hzs] at hcur
  have HZ := hide hzs
  have HZL : Hid (zs.length = 2180) := hide (by rw [hzs]; simp)
  clear o1 g1 B1 hzs
  refine hide ?_
  go_wp2_with (refine wpList_copy_splice rfl (.tmp 8) (.tmp 9) 24 24 rfl 5 Tryd.underlying24 hszi (some ⟨w.heap.size, 0, none⟩) ao 2180 2180 nb c rfl rfl w.heap.size 0 zs 5 (unhide hcur) cs (by have := unhide HCL; unfold Nat.min at *; omega) (fun hpos => ⟨rfl, copy_src (unhide HB1) (unhide hsrc) (h3) (by have := unhide HCL; omega)⟩) (by have := unhide HCL; have := unhide HZL; omega) hone w.heap.size w (unhide HB1) (Nat.le_refl _) ?_; intro w2 H2 B2; refine Hid.out ?_)
  have hbl : (bs.take 2180 ++ List.replicate (2180 - (bs.take 2180).length) (0 : Int)).length = 2180 := by simp; omega
  have hrow : Row w2 w.heap.size (.slice (some ⟨w.heap.size, 0, none⟩) 2180 2180) (bs.take 2180 ++ List.replicate (2180 - (bs.take 2180).length) 0) := by
    have := H2.out
    rw [unhide HZ, unhide HC, splice_sig] at this
    exact row_of_block (Nat.le_refl _) this hbl (by unfold maxLen; omega)
  have hbb : Bs (bs.take 2180 ++ List.replicate (2180 - (bs.take 2180).length) (0 : Int)) := by
    intro b hb
    rcases List.mem_append.1 hb with h | h
    · exact (unhide HB).take 2180 b h
    · rw [List.eq_of_mem_replicate h]; omega
  have HRW := hide hrow
  have HBB := hide hbb
  have HBL := hide hbl
  have HK2 := hide (Kp.of_below B2)
  clear hrow hbb hbl H2 B2
  refine hide ?_
  go_wp2_with fail
  go_ret
  exact ⟨_, _, rfl, unhide HBL, unhide HBB, unhide HRW, unhide HK2⟩

end Go.Proofs.YtdjofooggofpkaaDoor
