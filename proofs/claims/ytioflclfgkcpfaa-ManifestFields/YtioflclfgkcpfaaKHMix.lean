/-
  The contract of the program's mix: one block.
-/
import Derived.Test.YtioflclfgkcpfaaKHSched
namespace Go.Proofs.Ytioflclfgkcpfaa
open Go.RowKit

def Db (_ : World) : Prop := True
theorem rds_len (ws : List Int) (s : List Int) (hs : s.length = 8) : ∀ n, (rds ws s n).length = 8
  | 0 => hs
  | n + 1 => by
    have ih := rds_len ws s hs n
    simp only [rds]
    unfold rnd
    split
    · rfl
    · exact ih
theorem eight {s : List Int} (h : s.length = 8) : ∃ a b c d e f g i, s = [a, b, c, d, e, f, g, i] := by
  match s, h with
  | [a, b, c, d, e, f, g, i], _ => exact ⟨a, b, c, d, e, f, g, i, rfl⟩

theorem zip_step (tt s0 : List Int) (k : Nat) (h1 : k < tt.length) (h2 : k < s0.length) (ys : List Int) (hys : ys = List.zipWith ad (tt.take k) s0 ++ tt.drop k) :
    ys.set k (ad (ys.getD k 0) (s0.getD k 0)) = List.zipWith ad (tt.take (k + 1)) s0 ++ tt.drop (k + 1) := by
  have hz : (List.zipWith ad (tt.take k) s0).length = k := by simp; omega
  have e1 : ys.getD k 0 = tt[k] := by rw [hys, List.getD_eq_getElem?_getD, List.getElem?_append_right (by omega), hz, Nat.sub_self]; simp [List.getElem?_eq_getElem h1]
  have e2 : s0.getD k 0 = s0[k] := by simp [List.getElem?_eq_getElem h2]
  rw [e1, e2, hys, List.set_append_right _ _ (by omega), hz, Nat.sub_self, List.drop_eq_getElem_cons h1, List.set_cons_zero]
  have e3 : List.zipWith ad (tt.take (k + 1)) s0 = List.zipWith ad (tt.take k) s0 ++ [ad tt[k] s0[k]] := by
    refine List.ext_getElem (by simp; omega) (fun i hi1 hi2 => ?_)
    rcases Nat.lt_or_ge i k with hik | hik
    · rw [List.getElem_append_left (by omega)]; simp
    · have : i = k := by simp at hi1; omega
      subst this
      rw [List.getElem_append_right (by omega)]
      simp [hz]
  rw [e3, List.append_assoc]
  rfl
theorem ad5 (a b c d e : Int) : ad (ad (ad (ad a b) c) d) e = (a + b + c + d + e) % 4294967296 := by unfold ad; omega
theorem rnd_eq (a b c d e f g h k w : Int) : rnd [a, b, c, d, e, f, g, h] k w = [((h + bS1 e + chs e f g + k + w) % 4294967296 + (bS0 a + maj a b c) % 4294967296) % 4294967296, a, b, c, (d + (h + bS1 e + chs e f g + k + w) % 4294967296) % 4294967296, e, f, g] := by
  simp only [rnd, ad5]
  rfl
end Go.Proofs.Ytioflclfgkcpfaa
