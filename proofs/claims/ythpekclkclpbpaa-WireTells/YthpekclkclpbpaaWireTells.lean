/-
  The statement WireTellsSaid: for all asks and every row of bytes the law function WireTells returns true and leaves its arguments as they were. Its conditions: none.
-/
import Derived.Test.YthpekclkclpbpaaWrite
import Derived.Test.YthpekclkclpbpaaReads
import Derived.Test.YthpekclkclpbpaaRoomy
import Derived.Test.YthpekclkclpbpaaRows
import Derived.ShutString
import Derived.ChangeOld
import Derived.Below
import Derived.SizedLaws
namespace Go.Proofs.Ythpekclkclpbpaa.wireTells
open Go.ChangeShapes Go.WideShapes Go.ChangeAt Go.RowKit
open Go.Proofs.Ythpekclkclpbpaa
set_option linter.unusedVariables false

theorem own : ownKnob Try.prog.godebug = none := by kernel_rfl
theorem laidOut : laidOutB Try.prog = true := by kernel_rfl

theorem wr1_bs (x : AskD) (h : Bs x.bs) : Bs (wr1 x) := by
  unfold wr1
  split
  · intro b hb; simp only [List.mem_singleton] at hb; subst hb; omega
  · split
    · exact be_bs _ _ _
    · split
      · exact (be_bs _ _ _).append (h.take _)
      · exact h.take _
theorem wrs_bs (l : List AskD) (h : ∀ x ∈ l, Bs x.bs) : Bs (wrs l) := by
  intro b hb
  simp only [wrs, List.mem_flatten, List.mem_map] at hb
  obtain ⟨y, ⟨x, hx, rfl⟩, hb⟩ := hb
  exact wr1_bs x (h x hx) b hb

set_option maxRecDepth 100000 in
set_option maxHeartbeats 2000000 in
theorem walk (v0 : Value) (l0 : List AskD) (v1 : Value) (l1 : List AskD) (v2 : Value) (bs : List Int) (w : World) (h0 : Asks w v0 l0) (h1 : Asks w v1 l1) (h2 : Sl w v2 bs) (hB : Bs bs) (hb : bs.length ≤ 140737488351232) :
    Calls Try.prog 4 #[v0, v1, v2] w fun e w' => e = .returned (.bool true) ∧ Below w.heap.size w w' := by
  have hBl : ∀ x ∈ l0.take 40, Bs x.bs := fun x hx => by
    obtain ⟨i, hi, rfl⟩ := List.getElem_of_mem (List.mem_of_mem_take hx)
    obtain ⟨ao, c, _, _, h3⟩ := h0
    obtain ⟨b, off, _, h3⟩ := h3 i hi
    exact h3.2.2.2.2.2.1
  have hWl : (wrs (l0.take 40)).length ≤ 140737488355328 := by have := wrs_len l0 40; omega
  have hWB := wrs_bs _ hBl
  clear hBl
  obtain ⟨a2, m2, c2, rfl⟩ : ∃ a m c, v2 = .slice a m c := by obtain ⟨a, c, e, _⟩ := h2; exact ⟨_, _, _, e⟩
  have hm2 : m2 = bs.length := by obtain ⟨a, c, e, _⟩ := h2; cases e; rfl
  subst hm2
  go_enter Try.func4, Try.ntmps4
  go_wp2_with fail
  refine (write_any _ l0 _ h0).mono ?_
  rintro e w1 ⟨ab, mb, cb, rfl, r1, K1⟩
  go_wp2_with fail
  refine (roomy_any _ bs 165 _ (h2.kept K1 (by simp)) hb).mono ?_
  rintro e w2 ⟨g, n, rfl, hn, o2, k2⟩
  have r2 := r1.kept k2 (by simp)
  have K2 := K1.trans k2
  have hrlt := r2.lt
  have HN := hide hn
  have hnl : (bs.length : Int) ≤ (n : Int) := by omega
  clear hn
  go_wp2_with fail
  refine (reads_any _ _ v1 l1 _ r2.sl hWB hWl (fun k hk => (hrlt k hk).2) (h1.kept K2)).mono ?_
  rintro e w3 ⟨rfl, k3⟩
  have K3 := K2.trans k3
  have o3 := k3.owns o2 (by simp)
  have sF := Sl.of_owns o3
  have sP := sF.take bs.length (by rw [List.length_append]; omega)
  rw [List.take_left] at sP
  have hgl := (o3.lt g rfl).2
  have HF := hide sF
  clear r1 r2 o2 o3 sF hrlt k2 k3 K1
  go_wp2_with fail
  refine (reads_any _ bs v1 l1 _ sP hB (by omega) (fun k hk => by simp [Value.ownBlock] at hk; omega) (h1.kept K3)).mono ?_
  rintro e w4 ⟨rfl, k4⟩
  have K4 := K3.trans k4
  have sF4 := (unhide HF).kept k4 (by simp)
  go_wp2_with fail
  refine (intact_any _ _ bs 165 _ sF4 (h2.kept K4 (by simp)) hb).mono ?_
  rintro e w5 ⟨rfl, k5⟩
  go_wp2_with fail
  refine (known_any _).mono ?_
  rintro e w6 ⟨rfl, k6⟩
  go_wp2_with fail
  go_ret
  exact ⟨rfl, (K4.trans (k5.trans k6)).below (Nat.le_refl _) (by simp)⟩

set_option maxRecDepth 100000 in
theorem lifted (os : Os) (started : os.Started) (H : Type) (enc : TypeId × Value → H) :
    ReturnsInHanded {} Try.checked os 4 .any (Rows.wireTellsSpec.pre6 enc Try.prog Try.f4 Rows.wireTellsRow.domain false) (Rows.wireTellsSpec.post enc Try.prog Try.f4 false true false false) := by
  refine returnsInHanded_of_change_sized (C := Try.checked) own started (by kernel_rfl) Try.func4
    (ChangeSpec.witness6 (enc := enc) (C := Try.checked) false ⟨#[], #[.slice none 0 0, .slice none 0 0, .slice none 0 0], []⟩ 8 (by kernel_rfl) (by kernel_rfl) (by kernel_rfl) (by kernel_rfl)) ?_
  intro W base args ds gs before hval0 hW hcnd hsz0 _
  have hsz : (DataW.weightsEach Try.prog (Try.f4.params.toList ++ Rows.wireTellsSpec.plain.varTypes Try.prog) (ds ++ gs)).all (· ≤ reachBytes) = true := hsz0
  have hval : ∀ (j : Nat) t v, Try.f4.params[j]? = some t → args[j]? = some v → Value.okWide Try.prog W .any base t v := hval0
  have hW' := hW
  obtain ⟨p, q, hA0, hV, rfl, hfz, hnd⟩ := hW
  have hA : DataW.TrodAll enc Try.prog W 0 (fun _ => true) true Try.f4.params.toList args.toList ds p := hA0
  rw [Try.params4] at hA hval hsz
  obtain ⟨v0, vs0, d0, ds0, p0, q0, hargs, rfl, rfl, h0, r0⟩ := trodAll_cons hA
  obtain ⟨v1, vs1, d1, ds1, p1, q1, rfl, rfl, rfl, h1, r1⟩ := trodAll_cons r0
  obtain ⟨v2, vs2, d2, ds2, p2, q2, rfl, rfl, rfl, h2, r2⟩ := trodAll_cons r1
  obtain ⟨rfl, rfl, rfl⟩ := trodAll_nil r2
  obtain rfl : args = #[v0, v1, v2] := by cases args; simp_all
  obtain ⟨rfl, rfl⟩ := trodVars_none hV
  obtain ⟨a0, len0, cap0, rfl⟩ := okWide_slice Try.underlying34 (hval 0 34 v0 rfl rfl)
  have k0 := h0
  have lt0 : ∀ x ∈ p0, x.block < W.heap.size := by obtain ⟨m, hm⟩ := k0; exact DataW.trod_lt m _ _ _ hm
  obtain ⟨l0, s0⟩ : ∃ l, Asks W (.slice a0 len0 cap0) l := by
    obtain ⟨fuel, hf⟩ := h0
    exact asks_of_trod (by simpa [Value.cells] using hf)
  obtain ⟨a1, len1, cap1, rfl⟩ := okWide_slice Try.underlying34 (hval 1 34 v1 rfl rfl)
  have k1 := h1
  have lt1 : ∀ x ∈ p1, x.block < W.heap.size := by obtain ⟨m, hm⟩ := k1; exact DataW.trod_lt m _ _ _ hm
  obtain ⟨l1, s1⟩ : ∃ l, Asks W (.slice a1 len1 cap1) l := by
    obtain ⟨fuel, hf⟩ := h1
    exact asks_of_trod (by simpa [Value.cells] using hf)
  obtain ⟨a2, len2, cap2, rfl⟩ := okWide_slice Try.underlying25 (hval 2 25 v2 rfl rfl)
  have k2 := h2
  have lt2 : ∀ x ∈ p2, x.block < W.heap.size := by obtain ⟨m, hm⟩ := k2; exact DataW.trod_lt m _ _ _ hm
  obtain ⟨l2, s2, b2⟩ : ∃ bs, Sl W (.slice a2 len2 cap2) bs ∧ Bs bs := by
    obtain ⟨fuel, hf⟩ := h2
    exact bytes_of_trod (by simpa [Value.cells] using hf)
  have z2 : l2.length ≤ 140737488351232 := by
    obtain ⟨fuel, hf⟩ := k2
    exact sl_len s2 (reach_bytes (j := 2) (by simpa [Value.cells] using hf) hsz rfl rfl)
  clear hA0 hval0
  refine (walk (.slice a0 len0 cap0) l0 (.slice a1 len1 cap1) l1 (.slice a2 len2 cap2) l2 W s0 s1 s2 b2 z2).mono fun e W' ⟨he, bel⟩ => ?_
  subst he
  exact ⟨_, rfl, _, _, _, [], _, [], hW', trodAll_mk1 (shut_bool Try.underlying4 _), (trodAll_cons_mk (Below.trod laidOut (by kernel_rfl) (of_decide_eq_true (by kernel_rfl)) k0 bel lt0) (trodAll_cons_mk (Below.trod laidOut (by kernel_rfl) (of_decide_eq_true (by kernel_rfl)) k1 bel lt1) (trodAll_cons_mk (Below.trod laidOut (by kernel_rfl) (of_decide_eq_true (by kernel_rfl)) k2 bel lt2) trodAll_mk0))), rfl, bel.frame _, fun h => by cases h⟩

theorem over : Rows.wireTellsRow.holds Try.pinned (OpenSpec.ofChange Rows.wireTellsSpec) :=
  OpenClaim.holds_of_wide 4 Try.f4 rfl rfl rfl rfl rfl rfl rfl ⟨rfl, rfl, rfl, rfl, rfl⟩ rfl rfl rfl rfl rfl (by kernel_rfl) Try.func4 (by kernel_rfl)
    (of_decide_eq_true (by kernel_rfl)) (by unfold Func.isWrapper; first | (rw [if_pos (by decide +kernel)]; kernel_rfl) | (rw [if_neg (by decide +kernel)]; exact ⟨rfl, rfl⟩))
    (fun os started H enc _ => lifted os started H enc)
end Go.Proofs.Ythpekclkclpbpaa.wireTells

namespace Go.Proofs.Ythpekclkclpbpaa
/-- The given statement. -/
theorem WireTells_holds : Rows.WireTellsSaid := wireTells.over
#print axioms WireTells_holds
end Go.Proofs.Ythpekclkclpbpaa
