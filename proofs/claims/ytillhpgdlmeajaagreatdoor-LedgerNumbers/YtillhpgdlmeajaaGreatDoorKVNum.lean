/-
  The closed lists of LedgerNumbers: what can't be opened; as many items as there may be.
-/
import Derived.Test.YtillhpgdlmeajaaGreatDoorKUOpen
import Derived.Test.YtillhpgdlmeajaaGreatDoorKVOver
namespace Go.Proofs.YtillhpgdlmeajaaGreatDoor
open Go.RowKit
open Go.Proofs
set_option linter.unusedVariables false

theorem badD : ((opnP (recP [0, 0, 0, 0])).2.2 && (redU (opnP (recP [0, 0, 0, 0])).1).isSome) = false := by decide +kernel
theorem badE : ((opnP (recP (batU [[1], [1]]))).2.2 && (redU (opnP (recP (batU [[1], [1]]))).1).isSome) = false := by decide +kernel
theorem badF : ((opnP (recP (batU [[1]]) ++ recP (batU [[2], [1]]))).2.2 && (redU (opnP (recP (batU [[1]]) ++ recP (batU [[2], [1]]))).1).isSome) = false := by decide +kernel
theorem badG : ((opnP (recP (batU [[1]] ++ [0]))).2.2 && (redU (opnP (recP (batU [[1]] ++ [0]))).1).isSome) = false := by decide +kernel
theorem badH : ((opnP [1, 2, 3, 4, 5, 6, 7, 8]).2.2 && inOrd (opnP [1, 2, 3, 4, 5, 6, 7, 8]).1) = false := by decide +kernel
theorem bs1 (x : Int) (h : 0 ≤ x ∧ x ≤ 255) : Bs [x] := fun b hb => by simp at hb; omega
/-- the first k of many items. -/
def manyL (k : Nat) : List (List Int) := (List.range k).map fun (n : Nat) => [(n : Int), ((n / 16 : Nat) : Int)]
theorem manyL_len (k : Nat) : (manyL k).length = k := by simp [manyL]
theorem manyL_succ (k : Nat) : manyL (k + 1) = manyL k ++ [[(k : Int), ((k / 16 : Nat) : Int)]] := by simp [manyL, List.range_succ]
theorem manyL_mem {k : Nat} {x : List Int} (h : x ∈ manyL k) : ∃ n, n < k ∧ x = [(n : Int), ((n / 16 : Nat) : Int)] := by
  obtain ⟨n, hn, e⟩ := List.mem_map.1 h
  exact ⟨n, by simpa using hn, e.symm⟩
theorem manyL_two {k : Nat} {x : List Int} (h : x ∈ manyL k) : x.length = 2 := by obtain ⟨n, _, rfl⟩ := manyL_mem h; rfl
theorem manyL_bs {k : Nat} (hk : k ≤ 256) {x : List Int} (h : x ∈ manyL k) : Bs x := by
  obtain ⟨n, hn, rfl⟩ := manyL_mem h
  intro b hb
  rcases (by simpa using hb : b = (n : Int) ∨ b = ((n / 16 : Nat) : Int)) with rfl | rfl <;> omega
theorem manyL_nodup (k : Nat) : (manyL k).Nodup := by
  induction k with
  | zero => simp [manyL]
  | succ k ih =>
    rw [manyL_succ, List.nodup_append]
    refine ⟨ih, by simp, fun a ha b hb e => ?_⟩
    obtain ⟨n, hn, rfl⟩ := manyL_mem ha
    simp at hb
    rw [hb] at e
    simp at e
    omega
theorem manyL_take {k n : Nat} (h : n ≤ k) : (manyL k).take n = manyL n := by simp [manyL, ← List.map_take, List.take_range, Nat.min_eq_left h]
theorem manyL_part {k : Nat} (n : Nat) (h : n ≤ k) : manyL k = manyL n ++ (manyL k).drop n := by
  conv => lhs; rw [← List.take_append_drop n (manyL k), manyL_take h]
theorem allU_fresh {l xs : List (List Int)} (h : (l ++ xs).Nodup) : allU l xs = l ++ xs := by
  induction xs generalizing l with
  | nil => simp [allU]
  | cons x xs ih =>
    have hx : x ∉ l := fun hm => (List.nodup_append.1 h).2.2 x hm x (by simp) rfl
    rw [allU_cons, insU_new hx, ih (by simpa using h)]
    simp
theorem allU_old {l xs : List (List Int)} (h : ∀ x ∈ xs, x ∈ l) : allU l xs = l := by
  induction xs generalizing l with
  | nil => rfl
  | cons x xs ih => rw [allU_cons, insU_old (h x (by simp)), ih (fun y hy => h y (by simp [hy]))]
/-- the bytes of "one more". -/
def oneM : List Int := [111, 110, 101, 32, 109, 111, 114, 101]
theorem oneM_not (k : Nat) : oneM ∉ manyL k := fun h => by have := manyL_two h; simp [oneM] at this
theorem all200 : allU [] ((manyL 256).take 200) = manyL 200 := by
  rw [manyL_take (by omega), allU_fresh (by simpa using manyL_nodup 200), List.nil_append]
theorem all257 : (allU (manyL 200) ((manyL 256).drop 100 ++ [oneM])).length = 257 := by
  have e : (manyL 256).drop 100 = (manyL 200).drop 100 ++ (manyL 256).drop 200 := by
    have h1 := manyL_part (k := 256) 200 (by omega)
    conv => lhs; rw [h1]
    rw [List.drop_append, manyL_len]
    rfl
  have h2 := manyL_part (k := 256) 200 (by omega)
  rw [allU_snoc, e, allU_append, allU_old (fun x hx => List.mem_of_mem_drop hx), allU_fresh (by rw [← h2]; exact manyL_nodup _), ← h2, insU_new (oneM_not _), List.length_append, manyL_len]
  rfl
theorem all256 : allU (manyL 200) (manyL 256) = manyL 256 := by
  have h2 := manyL_part (k := 256) 200 (by omega)
  conv => lhs; rw [h2]
  rw [allU_append, allU_old (fun x hx => hx), allU_fresh (by rw [← h2]; exact manyL_nodup _), ← h2]
theorem all1 {x : List Int} (h : x.length ≠ 2) : (allU (manyL 256) [x]).length = 257 := by
  have : x ∉ manyL 256 := fun hm => h (manyL_two hm)
  show (insU (manyL 256) x).length = 257
  rw [insU_new this, List.length_append, manyL_len]
  rfl
theorem lists_11 (w : World) (x y : Int) (hx : 0 ≤ x ∧ x ≤ 255) (hy : 0 ≤ y ∧ y ≤ 255) : Lists (((w.alloc (.cells #[.int .u8 x] 5)).alloc (.cells #[.int .u8 y] 5)).alloc (.cells #[.slice (some ⟨w.heap.size, 0, none⟩) 1 1, .slice (some ⟨w.heap.size + 1, 0, none⟩) 1 1] 22)) (.slice (some ⟨w.heap.size + 2, 0, none⟩) 2 2) [(.slice (some ⟨w.heap.size, 0, none⟩) 1 1, [x]), (.slice (some ⟨w.heap.size + 1, 0, none⟩) 1 1, [y])] := by
  have h1 := (lit_sl w [x] 1 (0, 0) rfl (by omega)).kept ((Kp.refl [] (w.alloc (.cells #[.int .u8 x] 5))).alloc (.cells #[.int .u8 y] 5)) (by simp)
  have h2 := lit_sl (w.alloc (.cells #[.int .u8 x] 5)) [y] 1 (0, 0) rfl (by omega)
  have e1 : (w.alloc (.cells #[.int .u8 x] 5)).heap.size = w.heap.size + 1 := by simp
  have e2 : ((w.alloc (.cells #[.int .u8 x] 5)).alloc (.cells #[.int .u8 y] 5)).heap.size = w.heap.size + 2 := by simp
  rw [e1] at h2
  have := lists2 h1 (bs1 x hx) h2 (bs1 y hy)
  rw [e2] at this
  exact this
theorem lists_1 (w : World) (x : Int) (hx : 0 ≤ x ∧ x ≤ 255) : Lists ((w.alloc (.cells #[.int .u8 x] 5)).alloc (.cells #[.slice (some ⟨w.heap.size, 0, none⟩) 1 1] 22)) (.slice (some ⟨w.heap.size + 1, 0, none⟩) 1 1) [(.slice (some ⟨w.heap.size, 0, none⟩) 1 1, [x])] := by
  have h1 : Sl (w.alloc (.cells #[.int .u8 x] 5)) (.slice (some ⟨w.heap.size, 0, none⟩) 1 1) [x] := lit_sl w [x] 1 (0, 0) rfl (by omega)
  have e1 : (w.alloc (.cells #[.int .u8 x] 5)).heap.size = w.heap.size + 1 := by simp
  have := lists1 h1 (bs1 x hx)
  rw [e1] at this
  exact this
end Go.Proofs.YtillhpgdlmeajaaGreatDoor
