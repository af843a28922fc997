/-
  The statement WireBackSaid: for all asks the law function WireBack returns true and leaves its argument as it was. Its conditions: none.
-/
import Derived.Test.YthpekclkclpbpaaWrite
import Derived.Test.YthpekclkclpbpaaCutsPlain
import Derived.Test.YthpekclkclpbpaaRows
import Derived.ShutString
import Derived.ChangeOld
import Derived.Below
namespace Go.Proofs.Ythpekclkclpbpaa.wireBack
open Go.ChangeShapes Go.WideShapes Go.ChangeAt Go.RowKit
open Go.Proofs.Ythpekclkclpbpaa
set_option linter.unusedVariables false

theorem own : ownKnob Try.prog.godebug = none := by kernel_rfl
theorem laidOut : laidOutB Try.prog = true := by kernel_rfl

theorem tk_app (bad : Bool) (a r : List Int) (n : Nat) (h : a.length = n) : tk bad (a ++ r) n = (a, bad, r) := by
  rw [tk_ok bad _ n (by rw [List.length_append]; omega), List.take_left' h, List.drop_left' h]
theorem tkb_app (y r : List Int) (hy : y.length ≤ 300) : tkb false (be y.length 2 0 ++ (y ++ r)) 300 = (y, false, r) := by
  have e2 : tk false (be (y.length : Int) 2 0 ++ (y ++ r)) 2 = (be y.length 2 0, false, y ++ r) := tk_app false _ _ 2 (be_length _ _ _)
  have hv : val (be (y.length : Int) 2 0) = y.length := val_be2 y.length (by omega)
  unfold tkb
  rw [e2]
  simp only [hv]
  rw [if_neg (by omega)]
  exact tk_app false y r y.length rfl
theorem val_sing (a : Int) : val [a] = a := by simp [val]
theorem wr1_bs (x : AskD) (h : Bs x.bs) : Bs (wr1 x) := by
  unfold wr1
  split
  · intro b hb; simp only [List.mem_singleton] at hb; subst hb; omega
  · split
    · exact be_bs _ _ _
    · split
      · exact (be_bs _ _ _).append (h.take _)
      · exact h.take _
theorem wrs_bs (l : List AskD) (h : ∀ x ∈ l, Bs x.bs) : Bs (wrs l) := by
  intro b hb
  simp only [wrs, List.mem_flatten, List.mem_map] at hb
  obtain ⟨y, ⟨x, hx, rfl⟩, hb⟩ := hb
  exact wr1_bs x (h x hx) b hb
theorem wrs_drop (l : List AskD) (k : Nat) (h : k < l.length) : wrs (l.drop k) = wr1 l[k] ++ wrs (l.drop (k + 1)) := by
  rw [List.drop_eq_getElem_cons h]; rfl

set_option maxRecDepth 100000 in
set_option maxHeartbeats 4000000 in
theorem walk (v0 : Value) (l : List AskD) (w : World) (h0 : Asks w v0 l) :
    Calls Try.prog 5 #[v0] w fun e w' => e = .returned (.bool true) ∧ Below w.heap.size w w' := by
  have h0' := h0
  obtain ⟨al, cl, rfl, hll, hask⟩ := h0'
  have hBl : ∀ x ∈ l, Bs x.bs := fun x hx => by
    obtain ⟨i, hi, rfl⟩ := List.getElem_of_mem hx
    obtain ⟨b, off, _, h3⟩ := hask i hi
    exact h3.2.2.2.2.2.1
  go_enter Try.func5, Try.ntmps5
  go_wp2_with fail
  refine (write_any _ l _ h0).mono ?_
  rintro e w1 ⟨ab, mb, cb, rfl, r1, K1⟩
  obtain ⟨L, hL⟩ : ∃ L, L = l.take 40 := ⟨_, rfl⟩
  have hLl : L.length = min 40 l.length := by rw [hL, List.length_take]
  have hLg : ∀ k (h : k < L.length), L[k] = l[k]'(by omega) := fun k h => by simp [hL]
  have hLB : ∀ x ∈ L, Bs x.bs := fun x hx => hBl x (List.mem_of_mem_take (hL ▸ hx))
  have hWl : (wrs L).length ≤ 12080 := by have := wrs_len l 40; rw [hL]; omega
  rw [← hL] at r1
  obtain ⟨B, hB⟩ : ∃ B, B = wrs L := ⟨_, rfl⟩
  rw [← hB] at r1 hWl
  have HBB := hide hB
  clear hL hB h0
  go_wp2_with fail
  refine (read_any _ B _ r1.sl (by omega)).mono ?_
  rintro e w2 ⟨q, v2, rfl, hq, r2, o2, k2⟩
  have K2 := K1.trans k2
  have hqw : w.heap.size ≤ q := Nat.le_trans K1.size hq
  have hqq : ∀ i, i ∈ [q] → i ∈ ([] : List Nat) ∨ w.heap.size ≤ i := by intro i hi; simp only [List.mem_singleton] at hi; subst hi; exact .inr hqw
  clear r1 K1 k2 o2 hq
  go_wp2_with fail
  go_loopw [6] (fun i wr => ∃ k : Nat, k ≤ 40 ∧ k ≤ l.length ∧ i = .int .i64 k ∧ ∃ v', Rd wr q v' false (wrs (L.drop k)) ∧ Kp [] w wr) (fun i _ => 40 - (intOf i).toNat)
  case atStart => exact ⟨0, by omega, by omega, rfl, v2, by rw [List.drop_zero, ← unhide HBB]; exact r2, K2⟩
  case round =>
    obtain ⟨k, hk1, hk2, rfl, v', r', K'⟩ := hrel
    clear r2 K2
    by_cases hlt : k < l.length ∧ k < 40
    · obtain ⟨hlt1, hlt2⟩ := hlt
      have hlt3 : (k : Int) < (l.length : Int) := by omega
      have hkL : k < L.length := by omega
      obtain ⟨bl, off, rfl, hA⟩ := hask k hlt1
      rw [wrs_drop L k hkL, hLg k hkL] at r'
      have hBr : Bs (wr1 l[k] ++ wrs (L.drop (k + 1))) := (wr1_bs _ (hBl _ (List.getElem_mem hlt1))).append (wrs_bs _ (fun x hx => hLB x (List.mem_of_mem_drop hx)))
      have hRl : (wr1 l[k] ++ wrs (L.drop (k + 1))).length ≤ 140737488355328 := by
        rw [← hLg k hkL, ← wrs_drop L k hkL]
        have e1 : wrs L = wrs (L.take k) ++ wrs (L.drop k) := by
          unfold wrs
          rw [← List.flatten_append, ← List.map_append, List.take_append_drop]
        have e2 := congrArg List.length e1
        rw [List.length_append] at e2
        rw [← unhide HBB] at e2
        omega
      obtain ⟨x, hx⟩ : ∃ x, x = l[k] := ⟨_, rfl⟩
      obtain ⟨R, hR⟩ : ∃ R, R = wrs (L.drop (k + 1)) := ⟨_, rfl⟩
      rw [← hx] at hA r' hBr hRl
      rw [← hR] at r' hBr hRl
      have HR := hide hR
      obtain ⟨q0, q1, q2, q3, qs, qB, ⟨qn0, qn1⟩, _⟩ := hA
      have d0 := K'.cell q0 (by simp)
      have d2 : ∀ W, Kp [] w W → W.cell? ⟨bl, off + k * 4 + 2, none⟩ = some (.int .u32 x.n) := fun W hW => hW.cell q2 (by simp)
      have d3 := K'.cell q3 (by simp)
      have ds := qs.kept K' (by simp)
      have HQS := hide qs
      have HD2 := hide d2
      clear q0 q1 q2 q3 hx hR hask hBl hLB hLg d2
      go_wp2_with fail
      refine (cut_any x.v x.bs 300 _ ds).mono ?_
      rintro e w3 ⟨ay, cy, rfl, hT, hw⟩
      subst w3
      obtain ⟨y, hy⟩ : ∃ y, y = x.bs.take 300 := ⟨_, rfl⟩
      have hyl : y.length ≤ 300 := by rw [hy, List.length_take]; omega
      rw [← hy] at hT ⊢
      have HY := hide hy
      have HT := hide (hT _ (unhide HQS))
      clear hT hy ds
      by_cases e1 : x.kind = 1
      · have eq1 : wr1 x = [x.n % 256] := by unfold wr1; rw [if_pos e1]
        have t1 : (x.kind == 1) = true := beq_iff_eq.2 e1
        have hwr : IntKind.u8.wrap x.n = x.n % 256 := by simp [IntKind.wrap, IntKind.signed, IntKind.bits]
        rw [eq1] at r' hBr hRl
        have d2r := unhide HD2 wr.drew K'.drew
        have DD : Hid (∀ W, Kp [] wr W → Calls Try.prog 20 #[.pointer (some ⟨q, 0, none⟩)] W fun e w' => e = .returned (.int .u8 (x.n % 256)) ∧ (∃ v9, Rd w' q v9 false R) ∧ Kp [] w w' ∧ w'.cell? ⟨bl, off + k * 4 + 2, none⟩ = some (.int .u32 x.n)) := fun W hW => (rbyte_any q v' false _ W (r'.kept hW (by simp) (by simp)) hBr).mono fun e w' ⟨h1, h2⟩ => by
          rw [show (1 : Int) = ((1 : Nat) : Int) from rfl, tk_app false [x.n % 256] R 1 rfl] at h1 h2
          obtain ⟨⟨v9, r9, _⟩, k9⟩ := h2
          have K9 := (K'.trans hW).then k9 hqq
          exact ⟨by rw [h1, val_sing], ⟨v9, r9⟩, K9, unhide HD2 w' K9⟩
        clear e1 eq1 r' K' hBr hRl d3
        go_wp2_with fail
        go_region_with (go_at_call 20; refine (unhide DD _ ?_).mono ?_; (first | exact (Kp.refl [] _).drew | exact Kp.refl [] _); rintro e w9 ⟨rfl, ⟨v9, r9⟩, K9, d9⟩)
        all_goals
          go_wp2_with fail
          refine (bad_any q _ _ _ _ r9).mono ?_
          rintro e w10 ⟨rfl, hw⟩
          subst w10
          go_wp2_with fail
          go_roundw
          case rel => exact ⟨k + 1, by omega, by omega, by go_num, v9, by rw [← unhide HR]; exact r9, K9⟩
          case measure => simp [intOf]; omega
      · by_cases e2 : x.kind = 2
        · have eq1 : wr1 x = be x.n 4 0 := by unfold wr1; rw [if_neg e1, if_pos e2]
          have t1 : (x.kind == 1) = false := beq_eq_false_iff_ne.2 e1
          have t2 : (x.kind == 2) = true := beq_iff_eq.2 e2
          rw [eq1] at r' hBr hRl
          have d2r := unhide HD2 wr.drew K'.drew
          have DD : Hid (∀ W, Kp [] wr W → Calls Try.prog 21 #[.pointer (some ⟨q, 0, none⟩)] W fun e w' => e = .returned (.int .u32 x.n) ∧ (∃ v9, Rd w' q v9 false R) ∧ Kp [] w w' ∧ w'.cell? ⟨bl, off + k * 4 + 2, none⟩ = some (.int .u32 x.n)) := fun W hW => (rnum_any q v' false _ W (r'.kept hW (by simp) (by simp)) hBr).mono fun e w' ⟨h1, h2⟩ => by
            rw [show (4 : Int) = ((4 : Nat) : Int) from rfl, tk_app false (be x.n 4 0) R 4 (be_length _ _ _)] at h1 h2
            obtain ⟨⟨v9, r9, _⟩, k9⟩ := h2
            have K9 := (K'.trans hW).then k9 hqq
            exact ⟨by rw [h1, val_be4 _ qn0 qn1], ⟨v9, r9⟩, K9, unhide HD2 w' K9⟩
          clear e1 e2 eq1 r' K' hBr hRl d3
          go_wp2_with fail
          go_region_with (go_at_call 21; refine (unhide DD _ ?_).mono ?_; (first | exact (Kp.refl [] _).drew | exact Kp.refl [] _); rintro e w9 ⟨rfl, ⟨v9, r9⟩, K9, d9⟩)
          all_goals
            go_wp2_with fail
            refine (bad_any q _ _ _ _ r9).mono ?_
            rintro e w10 ⟨rfl, hw⟩
            subst w10
            go_wp2_with fail
            go_roundw
            case rel => exact ⟨k + 1, by omega, by omega, by go_num, v9, by rw [← unhide HR]; exact r9, K9⟩
            case measure => simp [intOf]; omega
        · by_cases e3 : x.kind = 3
          · have eq1 : wr1 x = be y.length 2 0 ++ y := by unfold wr1; rw [if_neg e1, if_neg e2, if_pos e3, ← unhide HY]
            have t1 : (x.kind == 1) = false := beq_eq_false_iff_ne.2 e1
            have t2 : (x.kind == 2) = false := beq_eq_false_iff_ne.2 e2
            have t3 : (x.kind == 3) = true := beq_iff_eq.2 e3
            rw [eq1, List.append_assoc] at r' hBr hRl
            have c1 : ∀ W ao c, Sl W (.slice ao y.length c) y → (convert 25 9 (.slice ao y.length c)).run Try.prog W = .ok (.string (strOfNums y)) W := fun W ao c h => h.conv 25 9 5 Try.underlying25 Try.underlying5 Try.underlying9
            have zr : Sl wr.drew (.slice ay y.length cy) y := (unhide HT).kept K'.drew (by simp)
            have DD : Hid (∀ W, Kp [] wr W → Calls Try.prog 22 #[.pointer (some ⟨q, 0, none⟩), .int .i64 300] W fun e w' => ∃ ao c, e = .returned (.slice ao y.length c) ∧ Sl w' (.slice ao y.length c) y ∧ (∃ v9, Rd w' q v9 false R) ∧ Kp [] w w' ∧ Sl w' (.slice ay y.length cy) y) := fun W hW => (rbytes_any q v' false _ 300 W (r'.kept hW (by simp) (by simp)) hBr hRl).mono fun e w' ⟨ao, c, h1, h2, h3⟩ => by
              rw [tkb_app y R hyl] at h1 h2 h3
              obtain ⟨⟨v9, r9, _⟩, k9⟩ := h3
              have K9 := (K'.trans hW).then k9 hqq
              exact ⟨ao, c, h1, h2.1, ⟨v9, r9⟩, K9, (unhide HT).kept K9 (by simp)⟩
            clear e1 e2 e3 eq1 r' K' hBr hRl d3
            go_wp2_with fail
            go_region_with (go_at_call 22; refine (unhide DD _ ?_).mono ?_; (first | exact (Kp.refl [] _).drew | exact Kp.refl [] _); rintro e w9 ⟨a9, c9, rfl, z9, ⟨v9, r9⟩, K9, z9b⟩)
            all_goals
              go_wp2_with fail
              refine (bad_any q _ _ _ _ r9).mono ?_
              rintro e w10 ⟨rfl, hw⟩
              subst w10
              go_wp2_with fail
              go_roundw
              case rel => exact ⟨k + 1, by omega, by omega, by go_num, v9, by rw [← unhide HR]; exact r9, K9⟩
              case measure => simp [intOf]; omega
          · have eq1 : wr1 x = y := by unfold wr1; rw [if_neg e1, if_neg e2, if_neg e3, ← unhide HY]
            have t1 : (x.kind == 1) = false := beq_eq_false_iff_ne.2 e1
            have t2 : (x.kind == 2) = false := beq_eq_false_iff_ne.2 e2
            have t3 : (x.kind == 3) = false := beq_eq_false_iff_ne.2 e3
            rw [eq1] at r' hBr hRl
            have c1 : ∀ W ao c, Sl W (.slice ao y.length c) y → (convert 25 9 (.slice ao y.length c)).run Try.prog W = .ok (.string (strOfNums y)) W := fun W ao c h => h.conv 25 9 5 Try.underlying25 Try.underlying5 Try.underlying9
            have zr : Sl wr.drew (.slice ay y.length cy) y := (unhide HT).kept K'.drew (by simp)
            have DD : Hid (∀ W, Kp [] wr W → Calls Try.prog 23 #[.pointer (some ⟨q, 0, none⟩), .int .i64 y.length] W fun e w' => ∃ ao c, e = .returned (.slice ao y.length c) ∧ Sl w' (.slice ao y.length c) y ∧ (∃ v9, Rd w' q v9 false R) ∧ Kp [] w w' ∧ Sl w' (.slice ay y.length cy) y) := fun W hW => (raw_ok q v' false _ y.length W (r'.kept hW (by simp) (by simp)) hRl).mono fun e w' ⟨ao, c, h1, h2, h3⟩ => by
              rw [tk_app false y R y.length rfl] at h1 h2 h3
              obtain ⟨⟨v9, r9, _⟩, k9⟩ := h3
              have K9 := (K'.trans hW).then k9 hqq
              exact ⟨ao, c, h1, h2.1, ⟨v9, r9⟩, K9, (unhide HT).kept K9 (by simp)⟩
            clear e1 e2 e3 eq1 r' K' hBr hRl d3
            go_wp2_with fail
            go_region_with (go_at_call 23; refine (unhide DD _ ?_).mono ?_; (first | exact (Kp.refl [] _).drew | exact Kp.refl [] _); rintro e w9 ⟨a9, c9, rfl, z9, ⟨v9, r9⟩, K9, z9b⟩)
            all_goals
              go_wp2_with fail
              refine (bad_any q _ _ _ _ r9).mono ?_
              rintro e w10 ⟨rfl, hw⟩
              subst w10
              go_wp2_with fail
              go_roundw
              case rel => exact ⟨k + 1, by omega, by omega, by go_num, v9, by rw [← unhide HR]; exact r9, K9⟩
              case measure => simp [intOf]; omega
    · have hnil : wrs (L.drop k) = [] := by
        rw [List.drop_of_length_le (by omega)]; rfl
      rw [hnil] at r'
      clear hask hnil hBl hLB hLg
      go_wp2_with fail
      all_goals
        refine (end_any q _ _ _ _ r').mono ?_
        rintro e w8 ⟨rfl, hw⟩
        subst w8
        go_wp2_with fail
        refine (left_any q _ _ _ _ r').mono ?_
        rintro e w8 ⟨rfl, hw⟩
        subst w8
        go_wp2_with fail
        refine (known_any _).mono ?_
        rintro e w9 ⟨rfl, k9⟩
        go_wp2_with fail
        go_ret
        exact ⟨rfl, (K'.trans k9).below (Nat.le_refl _) (by simp)⟩

set_option maxRecDepth 100000 in
theorem lifted (os : Os) (started : os.Started) (H : Type) (enc : TypeId × Value → H) :
    ReturnsInHanded {} Try.checked os 5 .any (Rows.wireBackSpec.pre6 enc Try.prog Try.f5 Rows.wireBackRow.domain false) (Rows.wireBackSpec.post enc Try.prog Try.f5 false true false false) := by
  refine returnsInHanded_of_change (C := Try.checked) own started (by kernel_rfl) Try.func5
    (ChangeSpec.witness6 (enc := enc) (C := Try.checked) false ⟨#[], #[.slice none 0 0], []⟩ 8 (by kernel_rfl) (by kernel_rfl) (by kernel_rfl) (by kernel_rfl)) ?_
  intro W base args ds gs before hval0 hW hcnd _
  have hval : ∀ (j : Nat) t v, Try.f5.params[j]? = some t → args[j]? = some v → Value.okWide Try.prog W .any base t v := hval0
  have hW' := hW
  obtain ⟨p, q, hA0, hV, rfl, hfz, hnd⟩ := hW
  have hA : DataW.TrodAll enc Try.prog W 0 (fun _ => true) true Try.f5.params.toList args.toList ds p := hA0
  rw [Try.params5] at hA hval
  obtain ⟨v0, vs0, d0, ds0, p0, q0, hargs, rfl, rfl, h0, r0⟩ := trodAll_cons hA
  obtain ⟨rfl, rfl, rfl⟩ := trodAll_nil r0
  obtain rfl : args = #[v0] := by cases args; simp_all
  obtain ⟨rfl, rfl⟩ := trodVars_none hV
  obtain ⟨a0, len0, cap0, rfl⟩ := okWide_slice Try.underlying34 (hval 0 34 v0 rfl rfl)
  have k0 := h0
  have lt0 : ∀ x ∈ p0, x.block < W.heap.size := by obtain ⟨m, hm⟩ := k0; exact DataW.trod_lt m _ _ _ hm
  obtain ⟨l0, s0⟩ : ∃ l, Asks W (.slice a0 len0 cap0) l := by
    obtain ⟨fuel, hf⟩ := h0
    exact asks_of_trod (by simpa [Value.cells] using hf)
  clear hA0 hval0
  refine (walk (.slice a0 len0 cap0) l0 W s0).mono fun e W' ⟨he, bel⟩ => ?_
  subst he
  exact ⟨_, rfl, _, _, _, [], _, [], hW', trodAll_mk1 (shut_bool Try.underlying4 _), (trodAll_cons_mk (Below.trod laidOut (by kernel_rfl) (of_decide_eq_true (by kernel_rfl)) k0 bel lt0) trodAll_mk0), rfl, bel.frame _, fun h => by cases h⟩

theorem over : Rows.wireBackRow.holds Try.pinned (OpenSpec.ofChange Rows.wireBackSpec) :=
  OpenClaim.holds_of_wide 5 Try.f5 rfl rfl rfl rfl rfl rfl rfl ⟨rfl, rfl, rfl, rfl, rfl⟩ rfl rfl rfl rfl rfl (by kernel_rfl) Try.func5 (by kernel_rfl)
    (of_decide_eq_true (by kernel_rfl)) (by unfold Func.isWrapper; first | (rw [if_pos (by decide +kernel)]; kernel_rfl) | (rw [if_neg (by decide +kernel)]; exact ⟨rfl, rfl⟩))
    (fun os started H enc _ => lifted os started H enc)
end Go.Proofs.Ythpekclkclpbpaa.wireBack

namespace Go.Proofs.Ythpekclkclpbpaa
/-- The given statement. -/
theorem WireBack_holds : Rows.WireBackSaid := wireBack.over
#print axioms WireBack_holds
end Go.Proofs.Ythpekclkclpbpaa
