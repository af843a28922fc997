/-
  The contract of the program's Sum.
-/
import Derived.Test.YtioflclfgkcpfaaKHPad
namespace Go.Proofs.Ytioflclfgkcpfaa
open Go.RowKit

theorem run_load_ar {w : World} {b : Nat} {t ty : TypeId} {s : List Int} {n : Nat} {e : TypeId} (hA : Ar w b t s) (hu : Try.prog.underlying ty = some (.array n e)) (hi : (Try.prog.info? ty).map (·.size) = some s.length) :
    (Instr.loadAt ty (.pointer (some ⟨b, 0, none⟩))).run Try.prog w = .ok (ag s) w := by
  simp only [Instr.loadAt, Instr.sureAddr, Sem.run_bind, Sem.run_pure, Result.andThen_ok, run_loadVar_row w b t ty _ (0, 0) (.array n e) hA hu rfl (by simpa using hi)]
  rfl
theorem run_store_ar {w : World} {b : Nat} {t ty : TypeId} {s0 s : List Int} (hA : Ar w b t s0) (hl : s0.length = s.length) (hi : (Try.prog.info? ty).map (·.size) = some s.length) :
    ∃ w', (Instr.storeAt ty (.pointer (some ⟨b, 0, none⟩)) (ag s)).run Try.prog w = .ok () w' ∧ Ar w' b t s ∧ Kp [b] w w' := by
  refine ⟨_, run_storeAt_mid w b 0 ty (s.map (Value.int .u32)).toArray ?_ (by simpa using hi) (all_oneCell_toArray (by simp [Value.oneCell'])), ?_, kp_setCells w b _ 0 w (Kp.refl _ _)⟩
  · intro j hj
    simp only [List.size_toArray, List.length_map] at hj
    rw [Nat.zero_add, hA.cell j (by omega)]
    exact ⟨rfl, hA.frozen j⟩
  · have := ar_setCells b t s 0 s0 w hA (by omega)
    simpa using this
theorem pad_len (rs : List Int) (N : Nat) (h : rs.length < 64) : (pad rs N).length = 64 * ((pad rs N).length / 64) ∧ (pad rs N).length ≤ 128 := by
  have : (pad rs N).length = rs.length + 1 + zeros rs.length + 8 := by simp [pad, be8]; omega
  unfold zeros at this
  omega
theorem be8_bs (n : Int) : Bs (be8 n) := by
  intro b hb
  simp only [be8, List.mem_cons, List.not_mem_nil, or_false] at hb
  rcases hb with rfl | rfl | rfl | rfl | rfl | rfl | rfl | rfl <;> omega
theorem pad_bs (rs : List Int) (N : Nat) (h : Bs rs) : Bs (pad rs N) := by
  intro b hb
  simp only [pad, List.mem_append] at hb
  rcases hb with ((hb | hb) | hb) | hb
  · exact h b hb
  · simp at hb; omega
  · have := (List.mem_replicate.1 hb).2; omega
  · exact be8_bs _ b hb

theorem Ar.cells8 {w : World} {b : Nat} {ty : TypeId} {x0 x1 x2 x3 x4 x5 x6 x7 : Int} (h : Ar w b ty [x0, x1, x2, x3, x4, x5, x6, x7]) :
    w.cell? ⟨b, 0, none⟩ = some (.int .u32 x0) ∧ w.cell? ⟨b, 1, none⟩ = some (.int .u32 x1) ∧ w.cell? ⟨b, 2, none⟩ = some (.int .u32 x2) ∧ w.cell? ⟨b, 3, none⟩ = some (.int .u32 x3) ∧ w.cell? ⟨b, 4, none⟩ = some (.int .u32 x4) ∧ w.cell? ⟨b, 5, none⟩ = some (.int .u32 x5) ∧ w.cell? ⟨b, 6, none⟩ = some (.int .u32 x6) ∧ w.cell? ⟨b, 7, none⟩ = some (.int .u32 x7) :=
  ⟨h.cell 0 (by simp), h.cell 1 (by simp), h.cell 2 (by simp), h.cell 3 (by simp), h.cell 4 (by simp), h.cell 5 (by simp), h.cell 6 (by simp), h.cell 7 (by simp)⟩
theorem Ar.frozen8 {w : World} {b : Nat} {ty : TypeId} {s : List Int} (h : Ar w b ty s) :
    w.frozen? ⟨b, 0, none⟩ = false ∧ w.frozen? ⟨b, 1, none⟩ = false ∧ w.frozen? ⟨b, 2, none⟩ = false ∧ w.frozen? ⟨b, 3, none⟩ = false ∧ w.frozen? ⟨b, 4, none⟩ = false ∧ w.frozen? ⟨b, 5, none⟩ = false ∧ w.frozen? ⟨b, 6, none⟩ = false ∧ w.frozen? ⟨b, 7, none⟩ = false :=
  ⟨h.frozen 0, h.frozen 1, h.frozen 2, h.frozen 3, h.frozen 4, h.frozen 5, h.frozen 6, h.frozen 7⟩
theorem ag_eight (x0 x1 x2 x3 x4 x5 x6 x7 : Int) : ag [x0, x1, x2, x3, x4, x5, x6, x7] = .agg #[.int .u32 x0, .int .u32 x1, .int .u32 x2, .int .u32 x3, .int .u32 x4, .int .u32 x5, .int .u32 x6, .int .u32 x7] := rfl
theorem sha_parts (bs : List Int) (n N k : Nat) (s1 xs ys : List Int) (hN : N = bs.length) (hn : n = bs.length / 64) (h1 : s1 = blks n begin8 bs) (hx : s1 = xs) (hk : k = (pad (bs.drop (64 * n)) N).length / 64) (hy : blks k xs (pad (bs.drop (64 * n)) N) = ys) : lay8 ys = sha bs := by
  unfold sha fin8
  rw [show bs.length / 64 * 64 = 64 * n from by omega, ← hn, ← h1, hx, ← hN, ← hk, hy]
theorem blks_take (s bs : List Int) (m : Nat) : ∀ k, 64 * k ≤ m → blks k s (bs.take m) = blks k s bs
  | 0, _ => rfl
  | k + 1, h => by
    simp only [blks]
    rw [blks_take s bs m k (by omega), List.drop_take, List.take_take, Nat.min_eq_left (by omega)]

end Go.Proofs.Ytioflclfgkcpfaa
