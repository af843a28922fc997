/-
  The contracts of the reference's Secret, Shown, Public and Sign.
-/
import Derived.Test.YtillhpgdlmeajabGreatDoorKHRefs
import Derived.Test.YtillhpgdlmeajabGreatDoorKOSmalls
namespace Go.Proofs.YtillhpgdlmeajabGreatDoor
open Go.RowKit

theorem lists3 {w : World} {v u t : Value} {bs cs ds : List Int} (h : Sl w v bs) (hB : Bs bs) (k : Sl w u cs) (hC : Bs cs) (j : Sl w t ds) (hD : Bs ds) : Lists (w.alloc (.cells #[v, u, t] 29)) (.slice (some ⟨w.heap.size, 0, none⟩) 3 3) [(v, bs), (u, cs), (t, ds)] :=
  lists_of_block (l := [(v, bs), (u, cs), (t, ds)]) (t := 29) (fr := (0, 0)) (heap_alloc_new w _) (by simp) (fun x hx => by
    rcases (by simpa using hx : x = (v, bs) ∨ x = (u, cs) ∨ x = (t, ds)) with rfl | rfl | rfl
    · exact ⟨h.kept ((Kp.refl [] w).alloc _) (by simp), hB⟩
    · exact ⟨k.kept ((Kp.refl [] w).alloc _) (by simp), hC⟩
    · exact ⟨j.kept ((Kp.refl [] w).alloc _) (by simp), hD⟩)
theorem cat3 (v u t : Value) (bs cs ds : List Int) : cat [(v, bs), (u, cs), (t, ds)] = bs ++ (cs ++ ds) := by simp [cat]
theorem row_nil (w : World) (base : Nat) : Row w base (.slice none 0 0) [] := ⟨rfl, .inl ⟨rfl, rfl⟩⟩

set_option maxHeartbeats 400000 in
theorem refnum_any (n : Int) (w : World) :
    Calls Tryz.prog 38 #[.slice none 0 0, .int .u32 n] w fun e w' => ∃ ao m c, e = .returned (.slice ao m c) ∧ Row w' w.heap.size (.slice ao m c) (be4 n) ∧ Kp [] w w' := by
  obtain ⟨cs, hcs⟩ : ∃ cs, cs = be4 n := ⟨_, rfl⟩
  have hl : cs.length = 4 := by rw [hcs]; rfl
  have hsl : Sl (w.alloc (.cells #[.int .u8 (n / 16777216 % 256), .int .u8 (n / 65536 % 256), .int .u8 (n / 256 % 256), .int .u8 (n % 256)] 5)) (.slice (some ⟨w.heap.size, 0, none⟩) 4 4) cs := by
    rw [hcs]; exact Sl.block (cs := be4 n) (t := 5) (heap_alloc_new w _) (by simp [be4, maxLen])
  rw [← hcs]
  clear hcs
  go_enter Tryz.func38, Tryz.ntmps38
  go_wp2_with (at_builtin; refine wpList_append_row rfl _ _ rfl w.heap.size (.slice none 0 0) [] rfl (row_nil _ _) _ cs rfl hsl (by simp; omega) (by simp) ?_; intro ao m c w1 r1 s1)
  go_ret
  exact ⟨ao, m, c, rfl, r1, ((Kp.refl [] w).alloc _).then s1.1 (by simp [Value.ownBlock])⟩

end Go.Proofs.YtillhpgdlmeajabGreatDoor

/-
  The contract of the reference's Public.
-/
namespace Go.Proofs.YtillhpgdlmeajabGreatDoor
open Go.RowKit

theorem flat_two (bs : List Int) (key : Int) (k : Nat) : (ptsP bs key noneC (2 * (k + 1))).flatten = (ptsP bs key noneC (2 * k)).flatten ++ shnP bs key (k : Nat) 0 ++ shnP bs key (k : Nat) 1 := by
  rw [show 2 * (k + 1) = 2 * k + 1 + 1 by omega, ptsP_succ, ptsP_succ, List.flatten_append, List.flatten_append]
  have e0 := ptP_at bs key noneC k 0 (by omega)
  have e1 := ptP_at bs key noneC k 1 (by omega)
  rw [Nat.add_zero] at e0
  rw [e0, e1]
  simp [noneC]
theorem flat_len (bs : List Int) (key : Int) (c : Nat → Nat → Bool) (n : Nat) : (ptsP bs key c n).flatten.length = 32 * n := by
  induction n with
  | zero => rfl
  | succ n ih => rw [ptsP_succ, List.flatten_append, List.length_append, ih]; simp [ptP_len]; omega

end Go.Proofs.YtillhpgdlmeajabGreatDoor

/-
  The contract of the reference's Sign.
-/
namespace Go.Proofs.YtillhpgdlmeajabGreatDoor
open Go.RowKit

theorem acc_nil (w : World) : Acc w [] (.slice none 0 0) w := ⟨[], ⟨⟨rfl, .inl ⟨rfl, rfl⟩⟩, fun x hx => by cases hx⟩, rfl, Kp.refl _ _⟩

end Go.Proofs.YtillhpgdlmeajabGreatDoor

/-
  The contract of the reference's Root.
-/
namespace Go.Proofs.YtillhpgdlmeajabGreatDoor
open Go.RowKit

theorem rts_take (d : Int) (ls : List (List Int)) (k : Nat) (h : k < ls.length) : ((rtsP d ls).take (k + 1)).flatten = ((rtsP d ls).take k).flatten ++ rtP d k ls[k] := by
  rw [List.take_succ_eq_append_getElem (by rw [rtsP_len]; exact h), List.flatten_append]
  simp [rtsP]
theorem rts_take_len (d : Int) (ls : List (List Int)) (k : Nat) (hl : ls.length = 64) (hg : ∀ i (h : i < ls.length), i < k → ls[i].length = 32) (hk : k ≤ 64) : ((rtsP d ls).take k).flatten.length ≤ 32 * k := by
  induction k with
  | zero => simp
  | succ k ih =>
    rw [rts_take d ls k (by omega), List.length_append]
    have h1 := ih (fun i h h' => hg i h (by omega)) (by omega)
    have h2 : (rtP d k (ls[k]'(by omega))).length = 32 := by
      unfold rtP
      split
      · exact sha_len _
      · exact hg k (by omega) (by omega)
    omega
theorem rtP_bs {d : Int} {i : Nat} {x : List Int} (h : Bs x) : Bs (rtP d i x) := by
  unfold rtP; split
  · exact sha_bs _
  · exact h

end Go.Proofs.YtillhpgdlmeajabGreatDoor
