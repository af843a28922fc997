/-
  The contract of the program's schedule: the words of a block.
-/
import Derived.Test.YtjmabnchaglpdaaKHBases
namespace Go.Proofs.Ytjmabnchaglpdaa
open Go.RowKit
theorem sch_set (bs : List Int) (k : Nat) (hk : k < 64) (x : Int) (hx : sch bs (k + 1) = sch bs k ++ [x]) : (sch bs k ++ List.replicate (64 - k) 0).set k x = sch bs (k + 1) ++ List.replicate (64 - (k + 1)) 0 := by
  have h := sch_len bs k
  rw [hx, List.set_append_right _ _ (by omega), h, Nat.sub_self, show 64 - k = (64 - (k + 1)) + 1 by omega, List.replicate_succ, List.set_cons_zero, List.append_assoc]
  rfl
theorem ad4 (a b c d : Int) : ad (ad (ad a b) c) d = (a + b + c + d) % 4294967296 := by unfold ad; omega
end Go.Proofs.Ytjmabnchaglpdaa

/-
  The contract of the program's mix: one block.
-/
namespace Go.Proofs.Ytjmabnchaglpdaa
open Go.RowKit

def Db (_ : World) : Prop := True
theorem rds_len (ws : List Int) (s : List Int) (hs : s.length = 8) : ∀ n, (rds ws s n).length = 8
  | 0 => hs
  | n + 1 => by
    have ih := rds_len ws s hs n
    simp only [rds]
    unfold rnd
    split
    · rfl
    · exact ih
theorem eight {s : List Int} (h : s.length = 8) : ∃ a b c d e f g i, s = [a, b, c, d, e, f, g, i] := by
  match s, h with
  | [a, b, c, d, e, f, g, i], _ => exact ⟨a, b, c, d, e, f, g, i, rfl⟩

theorem zip_step (tt s0 : List Int) (k : Nat) (h1 : k < tt.length) (h2 : k < s0.length) (ys : List Int) (hys : ys = List.zipWith ad (tt.take k) s0 ++ tt.drop k) :
    ys.set k (ad (ys.getD k 0) (s0.getD k 0)) = List.zipWith ad (tt.take (k + 1)) s0 ++ tt.drop (k + 1) := by
  have hz : (List.zipWith ad (tt.take k) s0).length = k := by simp; omega
  have e1 : ys.getD k 0 = tt[k] := by rw [hys, List.getD_eq_getElem?_getD, List.getElem?_append_right (by omega), hz, Nat.sub_self]; simp [List.getElem?_eq_getElem h1]
  have e2 : s0.getD k 0 = s0[k] := by simp [List.getElem?_eq_getElem h2]
  rw [e1, e2, hys, List.set_append_right _ _ (by omega), hz, Nat.sub_self, List.drop_eq_getElem_cons h1, List.set_cons_zero]
  have e3 : List.zipWith ad (tt.take (k + 1)) s0 = List.zipWith ad (tt.take k) s0 ++ [ad tt[k] s0[k]] := by
    refine List.ext_getElem (by simp; omega) (fun i hi1 hi2 => ?_)
    rcases Nat.lt_or_ge i k with hik | hik
    · rw [List.getElem_append_left (by omega)]; simp
    · have : i = k := by simp at hi1; omega
      subst this
      rw [List.getElem_append_right (by omega)]
      simp [hz]
  rw [e3, List.append_assoc]
  rfl
theorem ad5 (a b c d e : Int) : ad (ad (ad (ad a b) c) d) e = (a + b + c + d + e) % 4294967296 := by unfold ad; omega
theorem rnd_eq (a b c d e f g h k w : Int) : rnd [a, b, c, d, e, f, g, h] k w = [((h + bS1 e + chs e f g + k + w) % 4294967296 + (bS0 a + maj a b c) % 4294967296) % 4294967296, a, b, c, (d + (h + bS1 e + chs e f g + k + w) % 4294967296) % 4294967296, e, f, g] := by
  simp only [rnd, ad5]
  rfl
end Go.Proofs.Ytjmabnchaglpdaa

/-
  The contract of the program's mixAll: all blocks of a text that has whole ones alone.
-/
namespace Go.Proofs.Ytjmabnchaglpdaa
open Go.RowKit

theorem quiet_load_ar {o : Oper} {a : Act} {w : World} {K : Act → Prop} (ty : TypeId) (x : Operand) (ho : o.op = .load ty x) (b : Nat) (hx : a.eval x = .pointer (some ⟨b, 0, none⟩)) (t : TypeId) (s : List Int) (n : Nat) (e : TypeId) (hA : Ar w b t s)
    (hu : Try.prog.underlying ty = some (.array n e)) (hi : (Try.prog.info? ty).map (·.size) = some s.length) (h : K (a.put o.dst (ag s))) : o.quiet Try.prog a (fun w' => w' = w) K := by
  refine ⟨ag s, fun w' hw => ?_, h⟩
  subst hw
  unfold Oper.quietAt execOp
  simp only [ho, hx, Instr.loadAt, Instr.sureAddr, Sem.run_bind, Sem.run_pure, Result.andThen_ok, run_loadVar_row w' b t ty _ (0, 0) (.array n e) hA hu rfl (by simpa using hi), Oper.quietUpon]
  exact ⟨trivial, rfl⟩
theorem Sl.sub {w : World} {a : Addr} {len c : Nat} {bs : List Int} (h : Sl w (.slice (some a) len c) bs) (i m : Nat) (hm : 0 < m) (hi : i + m ≤ bs.length) : Sl w (.slice (some (a.add i)) m (c - i)) ((bs.drop i).take m) := by
  have hc : bs.length ≤ c := by obtain ⟨_, _, e, h1, _⟩ := h; cases e; exact h1
  have h1 := h.drop i (by omega)
  rw [if_neg (by omega)] at h1
  have h2 := h1.take m (by simp; omega)
  exact h2
theorem Bs.take {bs : List Int} (h : Bs bs) (n : Nat) : Bs (bs.take n) := fun b hb => h b (List.mem_of_mem_take hb)
theorem Bs.drop {bs : List Int} (h : Bs bs) (n : Nat) : Bs (bs.drop n) := fun b hb => h b (List.mem_of_mem_drop hb)
theorem blk_len (s bs : List Int) (h : s.length = 8) : (blk s bs).length = 8 := by
  unfold blk
  simp [rds_len _ _ h, h]
theorem blks_len (s bs : List Int) (h : s.length = 8) : ∀ n, (blks n s bs).length = 8
  | 0 => h
  | n + 1 => blk_len _ _ (blks_len s bs h n)

end Go.Proofs.Ytjmabnchaglpdaa
