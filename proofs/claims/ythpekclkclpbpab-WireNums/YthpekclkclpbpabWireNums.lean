/-
  The statement WireNumsSaid: for all two numbers of 32 bits the law function WireNums returns true and leaves its arguments as they were. Its conditions: none.
-/
import Derived.Test.YthpekclkclpbpabNumsPlain
import Derived.Test.YthpekclkclpbpabRows
import Derived.ProofKit
import Derived.OpenShut
import Derived.Deep.RegionWith
import Derived.Deep.DeepCutAuto
namespace Go.Proofs.Ythpekclkclpbpab.wireNums
open Go.ChangeShapes Go.WideShapes Go.ChangeAt Go.RowKit
open Go.Proofs.Ythpekclkclpbpab
set_option linter.unusedVariables false

theorem own : ownKnob Try.prog.godebug = none := by kernel_rfl

set_option maxHeartbeats 1000000 in
theorem walk (a b : Int) (a0 : 0 ≤ a) (a1 : a ≤ 4294967295) (b0 : 0 ≤ b) (b1 : b ≤ 4294967295) (w : World) :
    Calls Try.prog 3 #[.int .u32 a, .int .u32 b] w fun e w' => e = .returned (.bool true) ∧ Below w.heap.size w w' := by
  go_enter Try.func3, Try.ntmps3
  go_wp2_with fail
  refine (new_abs _).mono ?_
  rintro e w1 ⟨p, rfl, x1, p1, k1⟩
  go_wp2_with fail
  refine (new_abs _).mono ?_
  rintro e w2 ⟨q, rfl, y1, q1, k2⟩
  have hpq : p < q := Nat.lt_of_lt_of_le x1.lt q1
  have x2 := x1.kept k2 (by simp) (by simp)
  go_wp2_with fail
  refine (num_any p a _ [] _ x2 (by simp)).mono ?_
  rintro e w3 ⟨rfl, v3, x3, s3⟩
  have k3 : Kp [] w w3 := (k1.trans k2).then s3.1 (by intro i hi; simp [Value.ownBlock] at hi; omega)
  have y3 := y1.kept s3.1 (by simp [Value.ownBlock]; omega) (by simp [Value.ownBlock])
  have o3 : ∀ k, v3.ownBlock = some k → q < k := fun k hk => by
    rcases s3.2 k hk with e | e
    · cases e
    · have := y1.lt; omega
  go_wp2_with fail
  refine (num_any q b _ [] _ y3 (by simp)).mono ?_
  rintro e w4 ⟨rfl, v4, y4, s4⟩
  have k4 : Kp [] w w4 := k3.then s4.1 (by have := k1.size; intro i hi; simp [Value.ownBlock] at hi; omega)
  have x4 := x3.kept s4.1 (by simp [Value.ownBlock]; omega) (by intro i hi; have := o3 i hi; simp [Value.ownBlock]; omega)
  clear x1 y1 k1 s3 k3 y3 o3 s4 x3 x2 k2 p1 q1
  simp only [List.nil_append] at x4 y4
  obtain ⟨bs, hbs⟩ : ∃ bs, bs = be a 4 0 := ⟨_, rfl⟩
  obtain ⟨cs, hcs⟩ : ∃ cs, cs = be b 4 0 := ⟨_, rfl⟩
  rw [← hbs] at x4
  rw [← hcs] at y4
  have HB : Hid (bs = be a 4 0) := hbs
  have HC : Hid (cs = be b 4 0) := hcs
  clear hbs hcs
  have hb4 : bs.length ≤ 4 := by rw [HB.out, be_length]; omega
  have hc4 : cs.length ≤ 4 := by rw [HC.out, be_length]; omega
  go_wp2_with fail
  go_cut [7, 8] (fun x y wc => x = .string (strOfNums bs) ∧ y = .string (strOfNums cs) ∧ Kp [] w4 wc)
  case first =>
    have d1 : ∀ W, Kp [] w4 W → Calls Try.prog 6 #[.pointer (some ⟨p, 0, none⟩)] W fun e w' => ∃ ao c, e = .returned (.slice ao bs.length c) ∧ Sl w' (.slice ao bs.length c) bs ∧ Kp [] W w' ∧ Kp [] w4 w' := fun W hW => (done_any p v3 bs W (x4.kept hW (by simp) (by simp)) (by omega)).mono fun e w' ⟨ao, c, h1, h2, h3⟩ => ⟨ao, c, h1, Sl.of_owns h2, h3, hW.trans h3⟩
    have d2 : ∀ W, Kp [] w4 W → Calls Try.prog 6 #[.pointer (some ⟨q, 0, none⟩)] W fun e w' => ∃ ao c, e = .returned (.slice ao cs.length c) ∧ Sl w' (.slice ao cs.length c) cs ∧ Kp [] W w' ∧ Kp [] w4 w' := fun W hW => (done_any q v4 cs W (y4.kept hW (by simp) (by simp)) (by omega)).mono fun e w' ⟨ao, c, h1, h2, h3⟩ => ⟨ao, c, h1, Sl.of_owns h2, h3, hW.trans h3⟩
    have c1 : ∀ W ao c, Sl W (.slice ao bs.length c) bs → (convert 26 9 (.slice ao bs.length c)).run Try.prog W = .ok (.string (strOfNums bs)) W := fun W ao c h => h.conv 26 9 5 Try.underlying26 Try.underlying5 Try.underlying9
    have c2 : ∀ W ao c, Sl W (.slice ao cs.length c) cs → (convert 26 9 (.slice ao cs.length c)).run Try.prog W = .ok (.string (strOfNums cs)) W := fun W ao c h => h.conv 26 9 5 Try.underlying26 Try.underlying5 Try.underlying9
    have D1 := hide d1
    have D2 := hide d2
    clear d1 d2
    go_region_with (first
      | (go_at_call_of 6 (Value.pointer (some ⟨p, 0, none⟩)); refine (unhide D1 _ ?_).mono ?_; (first | exact (Kp.refl [] w4).drew | assumption | exact Kp.drew (by assumption)); rintro e w5 ⟨ao, c, rfl, z5, k5, g5⟩; try (have z6b := Sl.kept z6 k5 (by simp)))
      | (go_at_call_of 6 (Value.pointer (some ⟨q, 0, none⟩)); refine (unhide D2 _ ?_).mono ?_; (first | exact (Kp.refl [] w4).drew | assumption | exact Kp.drew (by assumption)); rintro e w6 ⟨ao', c', rfl, z6, k6, g6⟩; try (have z5b := Sl.kept z5 k6 (by simp))))
    all_goals (go_wp2_with fail; go_meet; exact ⟨rfl, rfl, by assumption⟩)
  case rest =>
    obtain ⟨rfl, rfl, kc⟩ := hcut
    have hbs := fun (w : World) (s : ByteArray) => run_bytes_of_string (P := Try.prog) w 9 26 5 s Try.underlying9 Try.underlying26 Try.underlying5
    have hB : Bs bs := HB.out ▸ be_bs a 4 0
    have hl4 : bs.length = 4 := by rw [HB.out, be_length]
    have h1 : (((strOfNums bs).size : Int) == 4) = true := by rw [strOfNums_size, hl4]; rfl
    have h2 : Op.bytesLess (strOfNums bs).toList (strOfNums cs).toList = decide (a < b) := by rw [HB.out, HC.out]; exact less_four a b a0 a1 b0 b1
    have h3 : ((strOfNums bs).toList == (strOfNums cs).toList) = (a == b) := by rw [HB.out, HC.out]; exact eq_four a b a0 a1 b0 b1
    have h4 : val (bs.take 4) = a := by rw [List.take_of_length_le (by omega), HB.out]; exact val_be4 a a0 a1
    have h5 : bs.drop 4 = [] := List.drop_of_length_le (by omega)
    have hcap1 : bs.length ≤ grownCap wc (strOfNums bs).size 0 5 := by have := grownCap_ge wc (strOfNums bs).size 0 5; rw [strOfNums_size] at this ⊢; exact this
    have hcap2 := grownCap_le_maxLen wc (strOfNums bs).size 0 5 (by rw [strOfNums_size, hl4]; decide)
    have HL : Hid (bs.length = 4) := hl4
    clear hl4
    go_wp2_with fail
    refine (read_any _ bs _ ((Sl.ofString hB 5 _ hcap1 hcap2 _).kept (Kp.refl [] _).drew (by simp)) (by omega)).mono ?_
    rintro e w6 ⟨r, v6, rfl, hr, r6, o6, k6⟩
    go_wp2_with fail
    refine (rnum_ok r v6 false bs _ r6 (by rw [HL.out]; omega) hB).mono ?_
    rintro e w7 ⟨rfl, rr, hT⟩
    obtain ⟨_, ⟨v7, r7, _⟩, k7, _⟩ := hT
    rw [h5] at r7
    have K7 : Hid (Below w.heap.size w w7) := by
      have b1 : Kp [] w w6 := ((k4.trans kc).alloc _).drew.trans k6
      have b2 : Kp [] w w7 := b1.then k7 (by
        intro i hi
        simp only [List.mem_singleton] at hi
        subst hi
        have := ((k4.trans kc).alloc (.cells (bytesRow (strOfNums bs) (grownCap wc (strOfNums bs).size 0 5)) 5 ((bytesRow (strOfNums bs) (grownCap wc (strOfNums bs).size 0 5)).size, (bytesRow (strOfNums bs) (grownCap wc (strOfNums bs).size 0 5)).size + 1))).drew.size
        exact .inr (Nat.le_trans this hr))
      exact b2.below (Nat.le_refl _) (by simp)
    rw [h4]
    clear h4 h5 r6 k6 k7 k4 kc x4 y4 hcap1 hcap2
    go_wp2_with fail
    refine (end_any r v7 false [] _ r7).mono ?_
    rintro e w8 ⟨rfl, rfl⟩
    go_wp2_with fail
    refine (known_any _).mono ?_
    rintro e w9 ⟨rfl, k9⟩
    go_wp2_with fail
    go_ret
    exact ⟨rfl, K7.out.trans (k9.below K7.out.size (by simp))⟩

set_option maxRecDepth 100000 in
theorem lifted (os : Os) (started : os.Started) (H : Type) (enc : TypeId × Value → H) :
    ReturnsInHanded {} Try.checked os 3 .any (Rows.wireNumsSpec.pre6 enc Try.prog Try.f3 Rows.wireNumsRow.domain false) (Rows.wireNumsSpec.post enc Try.prog Try.f3 false true false false) := by
  refine returnsInHanded_of_change (C := Try.checked) own started (by kernel_rfl) Try.func3
    (ChangeSpec.witness6 (enc := enc) (C := Try.checked) false ⟨#[], #[.int .u32 0, .int .u32 0], []⟩ 8 (by kernel_rfl) (by kernel_rfl) (by kernel_rfl) (by kernel_rfl)) ?_
  intro W base args ds gs before hval0 hW hcnd _
  have hval : ∀ (j : Nat) t v, Try.f3.params[j]? = some t → args[j]? = some v → Value.okWide Try.prog W .any base t v := hval0
  have hW' := hW
  obtain ⟨p, q, hA0, hV, rfl, hfz, hnd⟩ := hW
  have hA : DataW.TrodAll enc Try.prog W 0 (fun _ => true) true Try.f3.params.toList args.toList ds p := hA0
  rw [Try.params3] at hA hval
  obtain ⟨v0, vs0, d0, ds0, p0, q0, hargs, rfl, rfl, h0, r0⟩ := trodAll_cons hA
  obtain ⟨v1, vs1, d1, ds1, p1, q1, rfl, rfl, rfl, h1, r1⟩ := trodAll_cons r0
  obtain ⟨rfl, rfl, rfl⟩ := trodAll_nil r1
  obtain rfl : args = #[v0, v1] := by cases args; simp_all
  obtain ⟨rfl, rfl⟩ := trodVars_none hV
  obtain ⟨a0, rfl, rfl, rfl, w0⟩ := open_int Try.underlying22 (hval 0 22 v0 rfl rfl) h0
  obtain ⟨a1, rfl, rfl, rfl, w1⟩ := open_int Try.underlying22 (hval 1 22 v1 rfl rfl) h1
  clear hA0 hval0
  have u0 := bounds_u32 w0
  have u1 := bounds_u32 w1
  refine (walk a0 a1 u0.1 u0.2 u1.1 u1.2 W).mono fun e W' ⟨he, bel⟩ => ?_
  subst he
  exact ⟨_, rfl, _, _, _, [], [], [], hW', trodAll_mk1 (shut_bool Try.underlying4 _), (trodAll_cons_mk (shut_int Try.underlying22 w0) (trodAll_cons_mk (shut_int Try.underlying22 w1) trodAll_mk0)), rfl, bel.frame _, fun h => by cases h⟩

theorem over : Rows.wireNumsRow.holds Try.pinned (OpenSpec.ofChange Rows.wireNumsSpec) :=
  OpenClaim.holds_of_wide 3 Try.f3 rfl rfl rfl rfl rfl rfl rfl ⟨rfl, rfl, rfl, rfl, rfl⟩ rfl rfl rfl rfl rfl (by kernel_rfl) Try.func3 (by kernel_rfl)
    (of_decide_eq_true (by kernel_rfl)) (by unfold Func.isWrapper; first | (rw [if_pos (by decide +kernel)]; kernel_rfl) | (rw [if_neg (by decide +kernel)]; exact ⟨rfl, rfl⟩))
    (fun os started H enc _ => lifted os started H enc)
end Go.Proofs.Ythpekclkclpbpab.wireNums

namespace Go.Proofs.Ythpekclkclpbpab
/-- The given statement. -/
theorem WireNums_holds : Rows.WireNumsSaid := wireNums.over
#print axioms WireNums_holds
end Go.Proofs.Ythpekclkclpbpab
