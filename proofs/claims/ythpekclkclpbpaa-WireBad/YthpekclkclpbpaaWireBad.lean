/-
  The statement WireBadSaid: for every row of bytes, every number and all asks the law function WireBad returns true and leaves its arguments as they were. Its conditions: none.
-/
import Derived.Test.YthpekclkclpbpaaArgs
import Derived.Test.YthpekclkclpbpaaRows
import Derived.ShutString
import Derived.ChangeOld
import Derived.Below
namespace Go.Proofs.Ythpekclkclpbpaa.wireBad
open Go.ChangeShapes Go.WideShapes Go.ChangeAt Go.RowKit
open Go.Proofs.Ythpekclkclpbpaa
set_option linter.unusedVariables false

theorem own : ownKnob Try.prog.godebug = none := by kernel_rfl
theorem laidOut : laidOutB Try.prog = true := by kernel_rfl
theorem tk_e (n : Int) : tk true [] n = ([], true, []) := by
  unfold tk; split <;> simp
theorem tkb_e (n : Int) : tkb true [] n = ([], true, []) := by
  unfold tkb
  rw [tk_e]
  split
  · rfl
  · exact tk_e _

set_option maxHeartbeats 2000000 in
theorem walk (v0 : Value) (bs : List Int) (n : Int) (v2 : Value) (l : List AskD) (w : World) (h0 : Sl w v0 bs) (hB : Bs bs) (hn : -9223372036854775808 ≤ n ∧ n ≤ 9223372036854775807) (h2 : Asks w v2 l) :
    Calls Try.prog 7 #[v0, .int .i64 n, v2] w fun e w' => e = .returned (.bool true) ∧ Below w.heap.size w w' := by
  obtain ⟨al, cl, rfl, hll, hask⟩ := h2
  go_enter Try.func7, Try.ntmps7
  go_wp2_with fail
  refine (cut_any v0 bs 100 _ h0).mono ?_
  rintro e w1 ⟨ao, c, rfl, h1, _, hw⟩
  subst w1
  obtain ⟨cs, hcs⟩ : ∃ cs, cs = bs.take 100 := ⟨_, rfl⟩
  rw [← hcs] at h1 ⊢
  have hl : cs.length ≤ 100 := by rw [hcs]; simp; omega
  have hBc : Bs cs := hcs ▸ hB.take 100
  clear hcs h0 hB
  go_wp2_with fail
  refine (read_any _ cs _ h1 (by omega)).mono ?_
  rintro e w2 ⟨q, v3, rfl, hq, r2, o2, k2⟩
  go_wp2_with fail
  refine (within_any n 0 100000 _ (by omega) (by omega) (by omega) hn).mono ?_
  rintro e w3 ⟨x, rfl, hx0, hx1, hw⟩
  subst w3
  go_wp2_with fail
  refine (raw_ok q v3 false cs _ _ r2 (by omega)).mono ?_
  rw [tk_no false cs _ (.inr (by omega))]
  rintro e w4 ⟨ao4, c4, rfl, hO4, hL4⟩
  have K4 : Kp [] w w4 := k2.then hL4.2 (by intro i hi; simp only [List.mem_singleton] at hi; subst hi; exact .inr hq)
  obtain ⟨⟨v5, r5, o5⟩, _⟩ := hL4
  go_wp2_with fail
  go_loopw [8] (fun i wr => ∃ k : Nat, k ≤ 20 ∧ k ≤ l.length ∧ i = .int .i64 k ∧ ∃ v', Rd wr q v' true [] ∧ Kp [] w wr) (fun i _ => 20 - (intOf i).toNat)
  case atStart => exact ⟨0, by omega, by omega, rfl, v5, r5, K4⟩
  case round =>
    obtain ⟨k, hk1, hk2, rfl, v', r', K'⟩ := hrel
    clear r5 K4 hO4 o5 r2 k2 o2 h1
    have hqq : ∀ i, i ∈ [q] → i ∈ ([] : List Nat) ∨ w.heap.size ≤ i := by intro i hi; simp only [List.mem_singleton] at hi; subst hi; exact .inr hq
    by_cases hlt : k < l.length ∧ k < 20
    · obtain ⟨hlt1, hlt2⟩ := hlt
      have hlt3 : (k : Int) < (l.length : Int) := by omega
      obtain ⟨bl, off, rfl, hA⟩ := hask k hlt1
      obtain ⟨mk, hmk⟩ : ∃ mk, mk = l[k].most := ⟨_, rfl⟩
      have hcm : w.cell? ⟨bl, off + k * 4 + 1, none⟩ = some (.int .i64 mk) := by rw [hmk]; exact hA.2.1
      clear hA hmk hask
      go_wp2_with fail
      refine (bad_any q _ true [] _ r').mono ?_
      rintro e w5 ⟨rfl, hw⟩
      subst w5
      go_wp2_with fail
      refine (end_any q _ true [] _ r').mono ?_
      rintro e w5 ⟨rfl, hw⟩
      subst w5
      go_wp2_with fail
      refine (left_any q _ true [] _ r').mono ?_
      rintro e w5 ⟨rfl, hw⟩
      subst w5
      go_wp2_with fail
      refine (rbyte_any q _ true [] _ r' (by intro b hb; cases hb)).mono ?_
      rw [tk_e]
      rintro e w5 ⟨rfl, ⟨⟨v6, r6, _⟩, k6⟩⟩
      have K6 := K'.then k6 hqq
      clear r' K' k6
      go_wp2_with fail
      refine (rnum_any q _ true [] _ r6 (by intro b hb; cases hb)).mono ?_
      rw [tk_e]
      rintro e w6 ⟨rfl, ⟨⟨v7, r7, _⟩, k7⟩⟩
      have K7 := K6.then k7 hqq
      have c7 := K7.cell hcm (by simp)
      clear r6 K6 k7
      go_wp2_with fail
      refine (rbytes_any q _ true [] mk _ r7 (by intro b hb; cases hb) (by simp)).mono ?_
      rw [tkb_e]
      rintro e w7 ⟨ao7, c8, rfl, _, ⟨⟨v8, r8, _⟩, k8⟩⟩
      have K8 := K7.then k8 hqq
      have c8 := K8.cell hcm (by simp)
      clear r7 K7 k8 c7
      go_wp2_with fail
      refine (raw_ok q _ true [] mk _ r8 (by simp)).mono ?_
      rw [tk_e]
      rintro e w8 ⟨ao9, c9, rfl, _, ⟨⟨v9, r9, _⟩, k9⟩⟩
      have K9 := K8.then k9 hqq
      clear r8 K8 k9 c8
      go_wp2_with fail
      go_roundw
      case rel => exact ⟨k + 1, by omega, by omega, by go_num, v9, r9, K9⟩
      case measure => simp [intOf]; omega
    · clear hask
      go_wp2_with fail
      all_goals
        refine (bad_any q _ true [] _ r').mono ?_
        rintro e w5 ⟨rfl, hw⟩
        subst w5
        go_wp2_with fail
        refine (known_any _).mono ?_
        rintro e w9 ⟨rfl, k9⟩
        go_wp2_with fail
        go_ret
        exact ⟨rfl, (K'.trans k9).below (Nat.le_refl _) (by simp)⟩

set_option maxRecDepth 100000 in
theorem lifted (os : Os) (started : os.Started) (H : Type) (enc : TypeId × Value → H) :
    ReturnsInHanded {} Try.checked os 7 .any (Rows.wireBadSpec.pre6 enc Try.prog Try.f7 Rows.wireBadRow.domain false) (Rows.wireBadSpec.post enc Try.prog Try.f7 false true false false) := by
  refine returnsInHanded_of_change (C := Try.checked) own started (by kernel_rfl) Try.func7
    (ChangeSpec.witness6 (enc := enc) (C := Try.checked) false ⟨#[], #[.slice none 0 0, .int .i64 0, .slice none 0 0], []⟩ 8 (by kernel_rfl) (by kernel_rfl) (by kernel_rfl) (by kernel_rfl)) ?_
  intro W base args ds gs before hval0 hW hcnd _
  have hval : ∀ (j : Nat) t v, Try.f7.params[j]? = some t → args[j]? = some v → Value.okWide Try.prog W .any base t v := hval0
  have hW' := hW
  obtain ⟨p, q, hA0, hV, rfl, hfz, hnd⟩ := hW
  have hA : DataW.TrodAll enc Try.prog W 0 (fun _ => true) true Try.f7.params.toList args.toList ds p := hA0
  rw [Try.params7] at hA hval
  obtain ⟨v0, vs0, d0, ds0, p0, q0, hargs, rfl, rfl, h0, r0⟩ := trodAll_cons hA
  obtain ⟨v1, vs1, d1, ds1, p1, q1, rfl, rfl, rfl, h1, r1⟩ := trodAll_cons r0
  obtain ⟨v2, vs2, d2, ds2, p2, q2, rfl, rfl, rfl, h2, r2⟩ := trodAll_cons r1
  obtain ⟨rfl, rfl, rfl⟩ := trodAll_nil r2
  obtain rfl : args = #[v0, v1, v2] := by cases args; simp_all
  obtain ⟨rfl, rfl⟩ := trodVars_none hV
  obtain ⟨a0, len0, cap0, rfl⟩ := okWide_slice Try.underlying25 (hval 0 25 v0 rfl rfl)
  have k0 := h0
  have lt0 : ∀ x ∈ p0, x.block < W.heap.size := by obtain ⟨m, hm⟩ := k0; exact DataW.trod_lt m _ _ _ hm
  obtain ⟨l0, s0, b0⟩ : ∃ bs, Sl W (.slice a0 len0 cap0) bs ∧ Bs bs := by
    obtain ⟨fuel, hf⟩ := h0
    exact bytes_of_trod (by simpa [Value.cells] using hf)
  obtain ⟨a1, rfl, rfl, rfl, w1⟩ := open_int Try.underlying3 (hval 1 3 v1 rfl rfl) h1
  obtain ⟨a2, len2, cap2, rfl⟩ := okWide_slice Try.underlying34 (hval 2 34 v2 rfl rfl)
  have k2 := h2
  have lt2 : ∀ x ∈ p2, x.block < W.heap.size := by obtain ⟨m, hm⟩ := k2; exact DataW.trod_lt m _ _ _ hm
  obtain ⟨l2, s2⟩ : ∃ l, Asks W (.slice a2 len2 cap2) l := by
    obtain ⟨fuel, hf⟩ := h2
    exact asks_of_trod (by simpa [Value.cells] using hf)
  clear hA0 hval0
  refine (walk (.slice a0 len0 cap0) l0 a1 (.slice a2 len2 cap2) l2 W s0 b0 (bounds_i64 w1) s2).mono fun e W' ⟨he, bel⟩ => ?_
  subst he
  exact ⟨_, rfl, _, _, _, [], _, [], hW', trodAll_mk1 (shut_bool Try.underlying4 _), (trodAll_cons_mk (Below.trod laidOut (by kernel_rfl) (of_decide_eq_true (by kernel_rfl)) k0 bel lt0) (trodAll_cons_mk (shut_int Try.underlying3 w1) (trodAll_cons_mk (Below.trod laidOut (by kernel_rfl) (of_decide_eq_true (by kernel_rfl)) k2 bel lt2) trodAll_mk0))), rfl, bel.frame _, fun h => by cases h⟩

theorem over : Rows.wireBadRow.holds Try.pinned (OpenSpec.ofChange Rows.wireBadSpec) :=
  OpenClaim.holds_of_wide 7 Try.f7 rfl rfl rfl rfl rfl rfl rfl ⟨rfl, rfl, rfl, rfl, rfl⟩ rfl rfl rfl rfl rfl (by kernel_rfl) Try.func7 (by kernel_rfl)
    (of_decide_eq_true (by kernel_rfl)) (by unfold Func.isWrapper; first | (rw [if_pos (by decide +kernel)]; kernel_rfl) | (rw [if_neg (by decide +kernel)]; exact ⟨rfl, rfl⟩))
    (fun os started H enc _ => lifted os started H enc)
end Go.Proofs.Ythpekclkclpbpaa.wireBad

namespace Go.Proofs.Ythpekclkclpbpaa
/-- The given statement. -/
theorem WireBad_holds : Rows.WireBadSaid := wireBad.over
#print axioms WireBad_holds
end Go.Proofs.Ythpekclkclpbpaa
