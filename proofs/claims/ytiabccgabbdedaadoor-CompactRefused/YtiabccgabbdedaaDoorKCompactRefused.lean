/-
  The statement CompactRefusedCardSaid: for every size and all lists the law function CompactRefused returns true and leaves its arguments as they were; the tables hash.roundWords, math/bits' deBruijn32tab and deBruijn64tab start as the program's text lays them (tied). No other condition.
-/
import Derived.Test.YtiabccgabbdedaaDoorKCGrow
import Derived.Test.YtiabccgabbdedaaDoorTie
import Derived.Test.YtiabccgabbdedaaDoorCards
import Derived.SevenTiedAt
namespace Go.Proofs.YtiabccgabbdedaaDoor.compactRefused
open Go.ChangeShapes Go.WideShapes Go.ChangeAt Go.RowKit
open Go.Proofs.YtiabccgabbdedaaDoor
set_option linter.unusedVariables false

set_option maxRecDepth 100000 in
set_option maxHeartbeats 4000000 in
theorem walk (size : Int) (v1 : Value) (l1 : List (Value × List Int)) (w : World) (hG : Gl w) (hn : -9223372036854775808 ≤ size ∧ size ≤ 9223372036854775807) (hL1 : Lists w v1 l1) :
    Calls Tryd.prog 6 #[.int .i64 size, v1] w fun e w' => e = .returned (.bool true) ∧ Below w.heap.size w w' := by
  have HG := hide hG
  have HB0 := hide hL1.bs
  have HC1 := hide (few_any v1 l1 30 40 w hL1 (by omega))
  obtain ⟨fs, hfs⟩ : ∃ fs, fs = (l1.take (min 30 l1.length)).map fun x => x.2.take 40 := ⟨_, rfl⟩
  have HFS := hide hfs
  have hfl : fs.length ≤ 30 := by rw [hfs]; simp; omega
  have HFL := hide hfl
  have HF40 : Hid (∀ x ∈ fs, x.length ≤ 1000) := by
    rw [hfs]
    intro x hx
    obtain ⟨y, _, rfl⟩ := List.mem_map.1 hx
    simp; omega
  clear hG hfs hfl
  obtain ⟨al, cl, hv, -⟩ := hL1
  obtain ⟨nl, hnl⟩ : ∃ n, n = l1.length := ⟨_, rfl⟩
  rw [← hnl] at hv
  subst hv
  clear hnl
  go_enter Tryd.func6, Tryd.ntmps6
  go_wp2_with fail
  refine (unhide HC1).mono ?_
  rintro ee w1 ⟨o1, rfl, F1⟩
  have K1 : Kp [] w w1 := by obtain ⟨_, _, _, h, _⟩ := F1; exact h
  have M1 : LcM fs o1 w1 := by rw [unhide HFS]; exact F1.lc (unhide HB0) (by omega)
  have hG1 := (unhide HG).kept K1 (by simp)
  have HK1 := hide K1
  have HG1 := hide hG1
  have HM1 := hide M1
  obtain ⟨ao, co, hv1, -⟩ := M1.shape
  obtain ⟨N, hN⟩ : ∃ n, n = fs.length := ⟨_, rfl⟩
  rw [← hN] at hv1
  subst hv1
  have hNl : N ≤ 30 := by rw [hN]; exact unhide HFL
  have HN := hide hN
  have HKN := hide (known_any w1 hG1)
  clear K1 F1 M1 hG1 HC1 hN HFS HB0 HG
  by_cases hneg : size < 0
  · have HF := hide (from_neg size _ fs w1 (unhide HM1) hneg)
    go_wp2_with fail
    go_loopw [5, 6] (fun i j wr => i = .int .i64 0 ∧ j = .int .i64 size ∧ wr = w1) (fun _ _ _ => 0)
    case atStart => exact ⟨rfl, rfl, rfl⟩
    case round =>
      obtain ⟨rfl, rfl, hw⟩ := hrel
      subst wr
      go_wp2_with fail
      refine (unhide HF).mono ?_
      rintro e w2 ⟨rfl, hw⟩
      subst w2
      clear HF
      go_wp2_with (go_at_call 14; refine (unhide HKN).mono ?_; rintro e w3 ⟨rfl, K3⟩; have HK3 := hide K3; clear K3)
      go_ret
      exact ⟨rfl, ((unhide HK1).trans (unhide HK3)).below (Nat.le_refl _) (by simp)⟩
  · obtain ⟨M, rfl⟩ := Int.eq_ofNat_of_zero_le (by omega : 0 ≤ size)
    have hMb : M ≤ 9223372036854775807 := by omega
    have hneg2 : ¬ (M : Int) < 0 := by omega
    clear hneg hn
    go_wp2_with fail
    go_loopw [5, 6] (fun i j wr => ∃ an bn : Nat, bn ≤ M ∧ i = .int .i64 an ∧ j = .int .i64 bn ∧ an + onesP bn = onesP M ∧ wr = w1) (fun _ j _ => (intOf j).toNat)
    case atStart => exact ⟨0, M, Nat.le_refl _, rfl, rfl, by omega, rfl⟩
    case round =>
      obtain ⟨an, bn, hb, rfl, rfl, hab, hw⟩ := hrel
      subst wr
      have hob := onesP_le 63 M (by omega)
      by_cases hb0 : 0 < bn
      · have hb0i : (0 : Int) < (bn : Int) := by omega
        have hst := onesP_step bn
        have HE : Hid (an + bn % 2 + onesP (bn / 2) = onesP M) := hide (by omega)
        have hal : an ≤ 63 := by omega
        clear hab hst hob
        go_wp2_with fail
        go_roundw
        case rel => exact ⟨an + bn % 2, bn / 2, by omega, by go_num, by go_num, unhide HE, trivial⟩
        case measure => simp [intOf]; omega
      · obtain rfl : bn = 0 := by omega
        rw [onesP_zero, Nat.add_zero] at hab
        have HAB := hide hab
        clear hab hb hb0 hob
        by_cases hne : N = an
        · subst hne
          clear hneg2
          have hneg2 : ¬ (M : Int) < 0 := by omega
          go_wp2_with fail
          go_loopw [7, 8] (fun v i wr => ∃ k : Nat, k ≤ N ∧ i = .int .i64 k ∧ wr = w1 ∧ ((v = .int .i64 0 ∧ all32 (fs.take k) = true) ∨ (v = .int .i64 12 ∧ all32 (fs.take k) = false))) (fun _ i _ => N - (intOf i).toNat)
          case atStart => exact ⟨0, by omega, rfl, rfl, .inl ⟨rfl, rfl⟩⟩
          case round =>
            obtain ⟨k, hk, rfl, hw, hor⟩ := hrel
            subst wr
            by_cases hlt : k < N
            · have hlt2 : (k : Int) < (N : Int) := by omega
              have hkl : k < fs.length := by have := unhide HN; omega
              have hx := List.getElem?_eq_getElem hkl
              obtain ⟨x, hxx⟩ : ∃ x, x = fs[k] := ⟨_, rfl⟩
              rw [← hxx] at hx
              obtain ⟨-, b, off, u, rfl, hc, hS, hB⟩ := (unhide HM1).at k x hx
              obtain ⟨ax, cx, hux, -⟩ := hS
              have HT : Hid (fs.take (k + 1) = fs.take k ++ [x]) := by rw [hxx]; exact List.take_succ_eq_append_getElem hkl
              have HA : Hid (all32 (fs.take (k + 1)) = (all32 (fs.take k) && (x.length == 32))) := by rw [unhide HT]; simp [all32, Hid]
              subst hux
              clear hx hxx hkl hB
              by_cases h32 : x.length = 32
              · have h32i : (x.length : Int) = 32 := by omega
                have HA2 : Hid (all32 (fs.take (k + 1)) = all32 (fs.take k)) := by have h := unhide HA; rw [h32] at h; simpa [Hid] using h
                clear h32 HA
                rcases hor with ⟨rfl, h0⟩ | ⟨rfl, h0⟩
                · have H0 := hide h0
                  clear h0
                  go_wp2_with fail
                  go_roundw
                  case rel => exact ⟨k + 1, by omega, by go_num, trivial, .inl ⟨rfl, (unhide HA2).trans (unhide H0)⟩⟩
                  case measure => simp [intOf]; omega
                · have H0 := hide h0
                  clear h0
                  go_wp2_with fail
                  go_roundw
                  case rel => exact ⟨k + 1, by omega, by go_num, trivial, .inr ⟨rfl, (unhide HA2).trans (unhide H0)⟩⟩
                  case measure => simp [intOf]; omega
              · have h32i : ¬ (x.length : Int) = 32 := by omega
                have HA2 : Hid (all32 (fs.take (k + 1)) = false) := by
                  have h := unhide HA
                  rw [show (x.length == 32) = false from beq_eq_false_iff_ne.2 h32, Bool.and_false] at h
                  exact h
                clear h32 HA
                rcases hor with ⟨rfl, h0⟩ | ⟨rfl, h0⟩
                · clear h0
                  go_wp2_with fail
                  go_roundw
                  case rel => exact ⟨k + 1, by omega, by go_num, trivial, .inr ⟨rfl, unhide HA2⟩⟩
                  case measure => simp [intOf]; omega
                · clear h0
                  go_wp2_with fail
                  go_roundw
                  case rel => exact ⟨k + 1, by omega, by go_num, trivial, .inr ⟨rfl, unhide HA2⟩⟩
                  case measure => simp [intOf]; omega
            · obtain rfl : N = k := by omega
              have htk : fs.take N = fs := by rw [unhide HN]; exact List.take_length
              rw [htk] at hor
              rcases hor with ⟨rfl, h0⟩ | ⟨rfl, h0⟩
              · have HF := hide (from_ok M hMb _ fs w1 (unhide HM1) ((unhide HN).symm.trans (unhide HAB)) h0 (by have := unhide HN; omega) (unhide HG1).pos)
                clear h0 htk hk hlt
                go_wp2_with fail
                refine (unhide HF).mono ?_
                rintro e w2 ⟨rfl, a2, m2, c2, l2, R2, e2, K2⟩
                have hl2 : l2.length = N := by rw [map_len e2]; exact (unhide HN).symm
                obtain ⟨q, hq⟩ : ∃ q, q = w1.heap.size := ⟨_, rfl⟩
                rw [← hq] at R2 ⊢
                have HS2 := hide (size_any q _ M q l2 w2 R2 hMb)
                have h40 : ∀ y ∈ l2, y.2.length ≤ 1000 := fun y hy => by
                  have : y.2 ∈ l2.map (·.2) := List.mem_map_of_mem hy
                  rw [e2] at this
                  exact unhide HF40 y.2 this
                have HN2 := hide (nodes_any q _ M q l2 fs e2 w2 R2 (by omega) h40)
                have HK2 := hide K2
                have HG2 : Hid (Gl w2) := (unhide HG1).kept K2 (by simp)
                have HM2 := hide ((unhide HM1).kept K2)
                clear HF R2 e2 K2 hl2 h40 hq
                go_wp2_with (first
                  | (go_at_call 17; refine (unhide HS2).mono ?_; rintro e w3 ⟨rfl, hw3⟩; subst w3)
                  | (go_at_call 18; refine (unhide HN2).mono ?_; rintro e w3 ⟨a3, m3, c3, rfl, A3⟩; have HK3 := hide A3.kp; have HL3 := hide (lists_lsm (show LsM fs _ w3 from A3.lists (by have := unhide HN; omega)) ((unhide HM2).kept A3.kp).lsm); have HG3 := hide ((unhide HG2).kept A3.kp (by simp)); clear A3)
                  | (go_at_call 20; refine (unhide HL3).mono ?_; rintro e w4 ⟨rfl, K4⟩; have HK4 := hide K4; have HKN4 := hide (known_any w4 ((unhide HG3).kept K4 (by simp))); clear K4)
                  | (go_at_call 14; refine (unhide HKN4).mono ?_; rintro e w5 ⟨rfl, K5⟩; have HK5 := hide K5; clear K5))
                go_ret
                exact ⟨rfl, (((((unhide HK1).trans (unhide HK2)).trans (unhide HK3)).trans (unhide HK4)).trans (unhide HK5)).below (Nat.le_refl _) (by simp)⟩
              · have HF := hide (from_not M hMb _ fs w1 (unhide HM1) (by intro ⟨_, h⟩; rw [h0] at h; cases h))
                clear h0 htk hk hlt
                go_wp2_with fail
                refine (unhide HF).mono ?_
                rintro e w2 ⟨rfl, hw⟩
                subst w2
                clear HF
                go_wp2_with (go_at_call 14; refine (unhide HKN).mono ?_; rintro e w3 ⟨rfl, K3⟩; have HK3 := hide K3; clear K3)
                go_ret
                exact ⟨rfl, ((unhide HK1).trans (unhide HK3)).below (Nat.le_refl _) (by simp)⟩
        · have hnei : ¬ (N : Int) = (an : Int) := by omega
          have HF := hide (from_not M hMb _ fs w1 (unhide HM1) (by intro ⟨h, _⟩; have h1 := unhide HN; have h2 := unhide HAB; omega))
          clear hne
          go_wp2_with fail
          refine (unhide HF).mono ?_
          rintro e w2 ⟨rfl, hw⟩
          subst w2
          clear HF
          go_wp2_with (go_at_call 14; refine (unhide HKN).mono ?_; rintro e w3 ⟨rfl, K3⟩; have HK3 := hide K3; clear K3)
          go_ret
          exact ⟨rfl, ((unhide HK1).trans (unhide HK3)).below (Nat.le_refl _) (by simp)⟩
set_option maxRecDepth 100000 in
theorem lifted (os : Os) (started : os.Started) (H : Type) (enc : TypeId × Value → H) :
    ReturnsInHanded {} Tryd.checked os 6 .any (fun w args => (Rows.compactRefusedSpec.pre enc Tryd.prog Tryd.f6 [] false w args ∧ laidMetH Tryd.prog laid1 w) ∧ sizedMet enc Tryd.prog Tryd.f6 (OpenSpec.ofChange Rows.compactRefusedSpec) false w args) (Rows.compactRefusedSpec.post enc Tryd.prog Tryd.f6 false true false false) := by
  refine returnsInHanded_of_change_and (C := Tryd.checked) (X := fun w _ => laidMetH Tryd.prog laid1 w) (fun _ _ _ hh h => h.of_heap hh) own started (by kernel_rfl) Tryd.func6
    (ChangeSpec.witness_shaped (enc := enc) (C := Tryd.checked) (os := os) (X := fun w _ => laidMetH Tryd.prog laid1 w) false (World.doorLaid Tryd.prog 400 os) #[.int .i64 0, .slice none 0 0] 8 rfl (World.shaped_of_RefB (by kernel_rfl) (by kernel_rfl)) (by kernel_rfl) (by kernel_rfl) (by kernel_rfl) (door_met os _)) ?_
  intro W base args ds gs before hval0 hW hcnd hsz0 hL _
  have hG := gl_of_laid hL
  have hval : ∀ (j : Nat) t v, Tryd.f6.params[j]? = some t → args[j]? = some v → Value.okWide Tryd.prog W .any base t v := hval0
  have hW' := hW
  obtain ⟨p, q, hA0, hV, rfl, hfz, hnd⟩ := hW
  have hA : DataW.TrodAll enc Tryd.prog W 0 (fun _ => true) true Tryd.f6.params.toList args.toList ds p := hA0
  rw [Tryd.params6] at hA hval
  obtain ⟨v0, vs0, d0, ds0, p0, q0, hargs, rfl, rfl, h0, r0⟩ := trodAll_cons hA
  obtain ⟨v1, vs1, d1, ds1, p1, q1, rfl, rfl, rfl, h1, r1⟩ := trodAll_cons r0
  obtain ⟨rfl, rfl, rfl⟩ := trodAll_nil r1
  obtain rfl : args = #[v0, v1] := by cases args; simp_all
  obtain ⟨rfl, rfl⟩ := trodVars_none hV
  obtain ⟨a0, rfl, rfl, rfl, w0⟩ := open_int Tryd.underlying3 (hval 0 3 v0 rfl rfl) h0
  obtain ⟨a1, len1, cap1, rfl⟩ := okWide_slice Tryd.underlying24 (hval 1 24 v1 rfl rfl)
  have k1 := h1
  have lt1 : ∀ x ∈ p1, x.block < W.heap.size := by obtain ⟨m, hm⟩ := k1; exact DataW.trod_lt m _ _ _ hm
  obtain ⟨l1, s1⟩ : ∃ l, Lists W (.slice a1 len1 cap1) l := by
    obtain ⟨fuel, hf⟩ := h1
    exact lists_of_trod (by simpa [Value.cells] using hf)
  clear hA0 hval0
  refine (walk a0 (.slice a1 len1 cap1) l1 W hG (bounds_i64 w0) s1).mono fun e W' ⟨he, bel⟩ => ?_
  subst he
  exact ⟨_, rfl, _, _, _, [], _, [], hW', trodAll_mk1 (shut_bool Tryd.underlying4 _), (trodAll_cons_mk (shut_int Tryd.underlying3 w0) (trodAll_cons_mk (Below.trod laidOut (by kernel_rfl) (of_decide_eq_true (by kernel_rfl)) k1 bel lt1) trodAll_mk0)), rfl, bel.frame _, fun h => by cases h⟩

theorem over : Rows.compactRefusedRow.holds Tryd.pinned (OpenSpec.ofChange Rows.compactRefusedSpec) :=
  OpenClaim.holds_of_wide 6 Tryd.f6 rfl rfl rfl rfl rfl rfl rfl ⟨rfl, rfl, rfl, rfl, rfl⟩ rfl rfl rfl rfl rfl (by kernel_rfl) Tryd.func6 (by kernel_rfl)
    (of_decide_eq_true (by kernel_rfl)) (by unfold Func.isWrapper; first | (rw [if_pos (by decide +kernel)]; kernel_rfl) | (rw [if_neg (by decide +kernel)]; exact ⟨rfl, rfl⟩))
    (fun os started H enc _ => lifted os started H enc)
end Go.Proofs.YtiabccgabbdedaaDoor.compactRefused

namespace Go.Proofs.YtiabccgabbdedaaDoor
/-- The given statement: the tied card. -/
theorem CompactRefused_holds : Rows.CompactRefusedCardSaid :=
  Claim7.holds_tied_plain_at .later [] [.data, .data, .data] true Rows.compactRefusedCard.stood.harness false
    compactRefused.over (fun _ h => by cases h) (by kernel_rfl) (fun _ h => by cases h) compactRefused_row_tie rfl ⟨rfl, rfl⟩ (by kernel_rfl) rfl
    (fun f fn hf hfn => by
      obtain rfl : f = 6 := Option.some.inj ((show Tryd.prog.funcNamed "broadsheet/broadsheetlaw7.CompactRefused" = some 6 by kernel_rfl).symm.trans hf) |>.symm
      obtain rfl : fn = Tryd.f6 := (Option.some.inj (Tryd.func6.symm.trans hfn)).symm
      exact ⟨by kernel_rfl, fun j t ht => by
        rw [Tryd.params6] at ht
        have hm : t ∈ ([3, 24] : List TypeId) := by simpa using Array.mem_of_getElem? ht
        have hall : (([3, 24] : List TypeId).all fun u => !Tryd.prog.wantsStandIn u) = true := by kernel_rfl
        exact (show Tryd.prog.wantsStandIn t = false by simpa using List.all_eq_true.1 hall t hm)⟩)
    (by kernel_rfl)
#print axioms CompactRefused_holds
end Go.Proofs.YtiabccgabbdedaaDoor
