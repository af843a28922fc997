/-
  The contracts of package sign's writeHashes and Encode.
-/
import Derived.Test.YtillhpgdlmeajaaGreatDoorKSSign
import Derived.Test.YtillhpgdlmeajaaGreatDoorKLSmalls
namespace Go.Proofs.YtillhpgdlmeajaaGreatDoor
open Go.RowKit
open Go.Proofs

end Go.Proofs.YtillhpgdlmeajaaGreatDoor

/-
  The contracts of package sign's readHashes and Decode.
-/
namespace Go.Proofs.YtillhpgdlmeajaaGreatDoor
open Go.RowKit
open Go.Proofs

theorem chP_succ (n : Nat) (b : List Int) : chP (n + 1) b = chP n b ++ [(b.drop (32 * n)).take 32] := by simp [chP, List.range_succ]
theorem chP_len (n : Nat) (b : List Int) : (chP n b).length = n := by simp [chP]
theorem chP_32 (n : Nat) (b : List Int) (h : 32 * n ≤ b.length) : ∀ x ∈ chP n b, x.length = 32 := by
  intro x hx
  obtain ⟨i, hi, rfl⟩ := List.mem_map.1 hx
  have : i < n := by simpa using hi
  rw [List.length_take, List.length_drop]
  omega
/-- a block that is no part of it changes. -/
theorem AccS.off {S : List Nat} {F : Nat → Prop} {w wr w2 : World} {ls : List (List Int)} {v : Value} {q : Nat} (h : AccS S F w ls v wr) (k : Kp [q] wr w2) (hq : q ∈ S) (hF : ∀ i, F i → i ≠ q) (hlt : q < w.heap.size) : AccS S F w ls v w2 := by
  obtain ⟨l, ⟨h1, h1'⟩, h2, h3, h4⟩ := h
  refine ⟨l, ⟨h1.kept k (fun i hi => ?_), fun x hx => ⟨(h1' x hx).1.kept k (fun i hi => by simpa using hF i (h4 x hx i hi)), (h1' x hx).2⟩⟩, h2, h3.trans (k.mono (by simpa using hq)), h4⟩
  have := h1.own i hi
  simp; omega

theorem Lists.old {w w' : World} {v : Value} {l : List (Value × List Int)} {S : List Nat} (h : Lists w v l) (k : Kp S w w') (hS : ∀ q ∈ S, w.heap.size ≤ q) : Lists w' v l := by
  obtain ⟨ao, c, rfl, h1, h2⟩ := h
  refine ⟨ao, c, rfl, h1, fun i hi => ?_⟩
  obtain ⟨b, off, e, h3, h4, h5⟩ := h2 i hi
  subst e
  have hb := World.block_lt_of_cell? _ _ h3
  exact ⟨b, off, rfl, k.cell h3 (fun hm => by have := hS _ hm; simp at this hb; omega), h4.old k (fun i _ hlt hm => by have := hS _ hm; omega), h5⟩
theorem SigV.old {w w' : World} {v : Value} {i : Int} {ps qs : List (List Int)} {S : List Nat} (h : SigV w v i ps qs) (k : Kp S w w') (hS : ∀ q ∈ S, w.heap.size ≤ q) : SigV w' v i ps qs := by
  obtain ⟨vp, vq, lp, lq, e, h1, h2, h3, h4⟩ := h
  exact ⟨vp, vq, lp, lq, e, h1.old k hS, h2, h3.old k hS, h4⟩
theorem setCell_kp (w : World) (g j : Nat) (u : Value) : Kp [g] w (w.setCell ⟨g, j, none⟩ u) := (Kp.refl [g] w).setCell (p := ⟨g, j, none⟩) (.inl (by simp)) _

/-- a signature that is nothing. -/
def sig0 : Value := .agg #[.int .i64 0, .slice none 0 0, .slice none 0 0]
theorem sig0_v (w : World) : SigV w sig0 0 [] [] := ⟨_, _, [], [], rfl, lists_nil _ _ _, rfl, lists_nil _ _ _, rfl⟩

/-- what Decode answers. -/
def Decd (b : List Int) (v : Value) (e : Int) (w' : World) : Prop :=
  if decOk b then SigV w' v (val (b.take 4)) (chP 64 (b.drop 4)) (chP 4 (b.drop 2052)) ∧ e = 0 else v = sig0 ∧ e = 12

end Go.Proofs.YtillhpgdlmeajaaGreatDoor
