/-
  KeysNumbers: chapter 14's runs, boxes with each number of keys used, records that may not be.
-/
import Derived.Test.YtjmabnchaglpdaaKKLaw
import Derived.ShutString
import Derived.ChangeOld
import Derived.Below
namespace Go.Proofs.Ytjmabnchaglpdaa.keysNumbers
open Go.ChangeShapes Go.WideShapes Go.ChangeAt Go.RowKit
open Go.Proofs.Ytjmabnchaglpdaa
set_option linter.unusedVariables false

theorem own : ownKnob Try.prog.godebug = none := by kernel_rfl
theorem laidOut : laidOutB Try.prog = true := by kernel_rfl
theorem norec {x : List Int} (hl : x.length ≤ 65535) (h : x ≠ [0]) : false = ((opnP (recP x)).2.2 && inOrd (opnP (recP x)).1) := by
  have h1 := opnP_all [x] (fun r hr => by simp at hr; subst hr; exact hl)
  have h2 : layP [x] = recP x := by simp [layP]
  rw [h2] at h1
  rw [h1]
  have : inOrd [x] = false := inOrd_no (i := 0) (x := x) rfl (by simpa using h)
  simp [this]
set_option maxHeartbeats 8000000 in
set_option maxRecDepth 100000 in
theorem walk (w : World) :
    Calls Try.prog 3 #[] w fun e w' => e = .returned (.bool true) ∧ Below w.heap.size w w' := by
  go_enter Try.func3, Try.ntmps3
  go_wp2_with fail
  go_loopw [1] (fun i wr => ∃ k : Nat, k ≤ 19 ∧ i = .int .i64 k ∧ Kp [] w wr) (fun i _ => 19 - (intOf i).toNat)
  case atStart => exact ⟨0, by omega, rfl, Kp.refl _ _⟩
  case round =>
    obtain ⟨k, hk, rfl, KR⟩ := hrel
    have HKR := hide KR
    clear KR
    by_cases hlt : k ≤ 18
    · have hlt' : (k : Int) ≤ 18 := by omega
      have HLy := hide (klay_any k wr (by omega))
      go_wp2_with fail
      refine HLy.out.mono ?_
      rintro ee w1 ⟨a1, m1, c1, rfl, R1, K1⟩
      have HOn := hide (kon_any _ (klay k) w1 R1.sl (klay_bs (by omega)) (by rw [klay_len]; omega))
      have HK1 := hide (HKR.out.trans K1)
      clear R1 K1 HLy
      go_wp2_with fail
      refine HOn.out.mono ?_
      rintro ee w2 ⟨p, rfl, N2⟩
      by_cases h16 : k ≤ 16
      · have h16' : ¬ (k : Int) > 16 := by omega
        have HOp := hide (kopen_ok N2 rfl (Int.le_refl 0) rfl h16 (klay_opn k) (klay_dk k))
        clear N2 HOn
        go_wp2_with fail
        refine HOp.out.mono ?_
        rintro ee w3 ⟨q, rfl, B3⟩
        have HB3 := hide B3
        have HNx := hide (next_any B3)
        have HLf := hide (left_keys B3 h16 (16 - (k : Int)) rfl)
        clear B3 HOp
        go_wp2_with (first
          | (go_at_call 10; refine HNx.out.mono ?_; rintro ee w4 ⟨rfl, hw⟩; subst w4; clear HNx)
          | (go_at_call 11; refine HLf.out.mono ?_; rintro ee w4 ⟨rfl, hw⟩; subst w4; clear HLf))
        go_loopw [5] (fun i wr => ∃ m : Nat, k ≤ m ∧ m ≤ 16 ∧ i = .int .i64 m ∧ Bx w1 wr p (dkOn (klay m)) q m m) (fun i _ => 16 - (intOf i).toNat)
        case atStart => exact ⟨k, by omega, by omega, rfl, HB3.out⟩
        case round =>
          obtain ⟨m, hm0, hm, rfl, BM⟩ := hrel
          have HBM := hide BM
          clear BM
          by_cases hmt : m < 16
          · have hmt' : (m : Int) < 16 := by omega
            have HT := hide (take_any HBM.out hmt (by omega) true (kadd_on hmt) m 0 rfl rfl (m + 1) rfl)
            go_wp2_with fail
            refine HT.out.mono ?_
            rintro ee w5 ⟨rfl, B5⟩
            have HB5 := hide B5
            clear B5 HT
            go_wp2_with fail
            go_roundw
            case rel => exact ⟨m + 1, by omega, by omega, by go_num, HB5.out⟩
            case measure => simp [intOf]; omega
          · obtain rfl : m = 16 := by omega
            have HT := hide (take_used HBM.out)
            go_wp2_with fail
            refine HT.out.mono ?_
            rintro ee w5 ⟨rfl, hw5⟩
            subst w5
            clear HT
            obtain ⟨v5, N5⟩ := HBM.out.nx
            obtain ⟨B, hB⟩ : ∃ B, B = klay 16 := ⟨_, rfl⟩
            rw [← hB] at N5
            have HB0 := hide hB
            obtain ⟨T, hT⟩ : ∃ T, T = strOfNums B := ⟨_, rfl⟩
            have HT := hide hT
            have HD : Hid (∀ w', Kp [] wr.drew w' → DskP w' w1.heap.size p v5 (dkOn B)) := fun w' k' => N5.dk.keptN ((kp_drew wr).trans k')
            have HN5 := hide N5
            clear N5 hB hT
            go_wp2_with fail
            refine region_grow Try.mixed [Is (.int .i64 0), Is (.bool false), Is (.bool false), Is (.int .i64 23), Is (.bool false), Is (.bool false), Is (.bool false), Is (.pointer (some ⟨p, 0, none⟩)), SlT (B), Is (.string T), SlT (B), Is (.string T), Is (.bool false), Is (.bool false)] [[(8, none)], [(80, some 0)], [(81, some 1)], [(9, none), (82, some 2)], [(83, some 3), (82, some 2)], [(82, some 2), (84, some 4)], [(85, some 5)], [(2, none), (86, some 6)], [(87, some 7), (86, some 6)], [(88, some 8), (86, some 6)], [(86, some 6)], [(90, some 10), (86, some 6)], [(89, some 9), (91, some 11), (86, some 6)], [(86, some 6), (92, some 12)]] (by kernel_rfl) ?_ ?_ ?_
            · simp only [List.mem_cons, List.not_mem_nil, or_false]
              intro R hR
              rcases hR with rfl | rfl | rfl | rfl | rfl | rfl | rfl | rfl | rfl | rfl | rfl | rfl | rfl | rfl <;> first | exact stable_is _ | exact stable_sl _
            · refine steps_cons (fun a w hk hn => ?_) ?_
              · have h8 : a.eval (.tmp 8) = .int .i64 0 := hn.1
                clear hn
                refine wants_plain rfl ?_
                exact grown_move (.tmp 8) rfl h8
              refine steps_cons (fun a w hk hn => ?_) ?_
              · have h80 : a.eval (.tmp 80) = .int .i64 0 := hn.1
                clear hn
                refine wants_plain rfl ?_
                refine grown_run (v := .bool false) ?_ (Kp.refl _ _) rfl
                obtain ⟨ρ, hρ, hc, hf, hg⟩ := eval_is a
                rw [hρ] at h80 ⊢
                simp [go_sem, hc, h80]
              refine steps_cons (fun a w hk hn => ?_) ?_
              · have h81 : a.eval (.tmp 81) = .bool false := hn.1
                clear hn
                refine wants_plain rfl ?_
                exact grown_move (.tmp 81) rfl h81
              refine steps_cons (fun a w hk hn => ?_) ?_
              · have h9 : a.eval (.tmp 9) = .int .i64 23 := hn.1
                have h82 : a.eval (.tmp 82) = .bool false := hn.2.1
                clear hn
                refine wants_guard (d := 82) rfl rfl h82 ?_
                exact grown_move (.tmp 9) rfl h9
              refine steps_cons (fun a w hk hn => ?_) ?_
              · have h83 : a.eval (.tmp 83) = .int .i64 23 := hn.1
                have h82 : a.eval (.tmp 82) = .bool false := hn.2.1
                clear hn
                refine wants_guard (d := 82) rfl rfl h82 ?_
                refine grown_run (v := .bool false) ?_ (Kp.refl _ _) rfl
                obtain ⟨ρ, hρ, hc, hf, hg⟩ := eval_is a
                rw [hρ] at h83 ⊢
                simp [go_sem, hc, h83]
              refine steps_cons (fun a w hk hn => ?_) ?_
              · have h82 : a.eval (.tmp 82) = .bool false := hn.1
                have h84 : a.eval (.tmp 84) = .bool false := hn.2.1
                clear hn
                refine wants_plain rfl ?_
                exact grown_pick _ _ _ false rfl h82 h84
              refine steps_cons (fun a w hk hn => ?_) ?_
              · have h85 : a.eval (.tmp 85) = .bool false := hn.1
                clear hn
                refine wants_plain rfl ?_
                exact grown_move (.tmp 85) rfl h85
              refine steps_cons (fun a w hk hn => ?_) ?_
              · have h2 : a.eval (.tmp 2) = .pointer (some ⟨p, 0, none⟩) := hn.1
                have h86 : a.eval (.tmp 86) = .bool false := hn.2.1
                clear hn
                refine wants_guard (d := 86) rfl rfl h86 ?_
                exact grown_move (.tmp 2) rfl h2
              refine steps_cons (fun a w hk hn => ?_) ?_
              · have h87 : a.eval (.tmp 87) = .pointer (some ⟨p, 0, none⟩) := hn.1
                have h86 : a.eval (.tmp 86) = .bool false := hn.2.1
                clear hn
                refine wants_guard (d := 86) rfl rfl h86 ?_
                refine grown_call (f := 13) rfl Try.func13 (by kernel_rfl) (by kernel_rfl) ?_
                simp only [List.map_toArray, List.map_cons, List.map_nil, h87]
                refine (dbytes_any p v5 _ _ w (unhide HD w hk)).mono ?_
                rintro e w' ⟨ao, m, c, rfl, R, K⟩
                exact ⟨_, rfl, K, R.sl⟩
              refine steps_cons (fun a w hk hn => ?_) ?_
              · have h88 : Sl w (a.eval (.tmp 88)) (B) := hn.1
                have h86 : a.eval (.tmp 86) = .bool false := hn.2.1
                clear hn
                refine wants_guard (d := 86) rfl rfl h86 ?_
                exact grown_conv (.tmp 88) _ _ 5 _ rfl h88 Try.underlying24 Try.underlying5 Try.underlying9 (congrArg Value.string (unhide HT).symm)
              refine steps_cons (fun a w hk hn => ?_) ?_
              · have h86 : a.eval (.tmp 86) = .bool false := hn.1
                clear hn
                refine wants_guard (d := 86) rfl rfl h86 ?_
                refine grown_call (f := 8) rfl Try.func8 (by kernel_rfl) (by kernel_rfl) ?_
                simp only [List.map_toArray, List.map_cons, List.map_nil]
                refine (klay_any 16 w (by omega)).mono ?_
                rintro e w' ⟨ao, m, c, rfl, R, K⟩
                rw [← unhide HB0] at R
                exact ⟨_, rfl, K, R.sl⟩
              refine steps_cons (fun a w hk hn => ?_) ?_
              · have h90 : Sl w (a.eval (.tmp 90)) (B) := hn.1
                have h86 : a.eval (.tmp 86) = .bool false := hn.2.1
                clear hn
                refine wants_guard (d := 86) rfl rfl h86 ?_
                exact grown_conv (.tmp 90) _ _ 5 _ rfl h90 Try.underlying24 Try.underlying5 Try.underlying9 (congrArg Value.string (unhide HT).symm)
              refine steps_cons (fun a w hk hn => ?_) ?_
              · have h89 : a.eval (.tmp 89) = .string T := hn.1
                have h91 : a.eval (.tmp 91) = .string T := hn.2.1
                have h86 : a.eval (.tmp 86) = .bool false := hn.2.2.1
                clear hn
                refine wants_guard (d := 86) rfl rfl h86 ?_
                refine grown_run (v := .bool false) ?_ (Kp.refl _ _) rfl
                obtain ⟨ρ, hρ, hc, hf, hg⟩ := eval_is a
                rw [hρ] at h89 h91 ⊢
                simp [go_sem, h89, h91]
              refine steps_cons (fun a w hk hn => ?_) ?_
              · have h86 : a.eval (.tmp 86) = .bool false := hn.1
                have h92 : a.eval (.tmp 92) = .bool false := hn.2.1
                clear hn
                refine wants_plain rfl ?_
                exact grown_pick _ _ _ false rfl h86 h92
              exact trivial
            intro W1 hkW1
            rintro _ rfl
            rintro _ rfl
            rintro _ rfl
            rintro _ rfl
            rintro _ rfl
            rintro _ rfl
            rintro _ rfl
            rintro _ rfl
            intro v88 h88
            rintro _ rfl
            intro v90 h90
            rintro _ rfl
            rintro _ rfl
            rintro _ rfl
            refine fin_nil ?_
            simp only [Act.put, List.set_cons_zero, List.set_cons_succ, List.setIfInBounds_toArray]
            go_wp2_with fail
            go_roundw
            case rel => exact ⟨k + 1, by omega, by go_num, HK1.out.trans (HN5.out.kp.trans ((kp_drew _).trans hkW1))⟩
            case measure => simp [intOf]; omega
      · have h16' : (k : Int) > 16 := by omega
        have HOp := hide (kopen_any N2 rfl (Int.le_refl 0) (klay k) rfl false (by rw [klay_opn]; simp [inOrd_long (rs := keyL k) (by rw [keyL_len]; omega)]))
        clear N2 HOn
        go_wp2_with fail
        refine HOp.out.mono ?_
        rintro ee w3 (⟨hf, -⟩ | ⟨-, rfl, K3⟩)
        · cases hf
        have HK3 := hide (HK1.out.trans K3)
        clear HOp K3
        go_wp2_with fail
        go_roundw
        case rel => exact ⟨k + 1, by omega, by go_num, HK3.out⟩
        case measure => simp [intOf]; omega
    · have hlt' : ¬ (k : Int) ≤ 18 := by omega
      obtain ⟨wA, hwA⟩ : ∃ wA, wA = wr.alloc (.cells #[.int .u8 1] 5) := ⟨_, rfl⟩
      obtain ⟨wB, hwB⟩ : ∃ wB, wB = wA.alloc (.cells #[.int .u8 0, .int .u8 0] 5) := ⟨_, rfl⟩
      obtain ⟨wC, hwC⟩ : ∃ wC, wC = wB.alloc (.cells #[.int .u8 255] 5) := ⟨_, rfl⟩
      have kA : Kp [] wr wA := by rw [hwA]; exact (Kp.refl [] wr).alloc _
      have kB : Kp [] wA wB := by rw [hwB]; exact (Kp.refl [] wA).alloc _
      have kC : Kp [] wB wC := by rw [hwC]; exact (Kp.refl [] wB).alloc _
      have zA : wA.heap.size = wr.heap.size + 1 := by rw [hwA]; simp
      have zB : wB.heap.size = wr.heap.size + 2 := by rw [hwB]; simp [zA]
      have zC : wC.heap.size = wr.heap.size + 3 := by rw [hwC]; simp [zB]
      have sA : Sl wC (.slice (some ⟨wr.heap.size, 0, none⟩) 1 1) [1] := by
        have := lit_sl wr [1] 1 (0, 0) rfl (by omega)
        simp only [List.map_cons, List.map_nil] at this
        rw [← hwA] at this
        exact this.kept (kB.trans kC) (by simp)
      have sB : Sl wC (.slice (some ⟨wr.heap.size + 1, 0, none⟩) 2 2) [0, 0] := by
        have := lit_sl wA [0, 0] 2 (0, 0) rfl (by omega)
        simp only [List.map_cons, List.map_nil] at this
        rw [← hwB, zA] at this
        exact this.kept kC (by simp)
      have sC : Sl wC (.slice (some ⟨wr.heap.size + 2, 0, none⟩) 1 1) [255] := by
        have := lit_sl wB [255] 1 (0, 0) rfl (by omega)
        simp only [List.map_cons, List.map_nil] at this
        rw [← hwC, zB] at this
        exact this
      obtain ⟨la, hla⟩ : ∃ la : List (Value × List Int), la = [(.slice (some ⟨wr.heap.size, 0, none⟩) 1 1, [1]), (.slice (some ⟨wr.heap.size + 1, 0, none⟩) 2 2, [0, 0]), (.slice none 0 0, []), (.slice (some ⟨wr.heap.size + 2, 0, none⟩) 1 1, [255])] := ⟨_, rfl⟩
      have hall : ∀ x ∈ la, Sl wC x.1 x.2 ∧ Bs x.2 ∧ x.2.length ≤ 2 ∧ x.2 ≠ [0] := fun x hx => by
        rw [hla] at hx
        rcases (by simpa using hx : x = (.slice (some ⟨wr.heap.size, 0, none⟩) 1 1, [1]) ∨ x = (.slice (some ⟨wr.heap.size + 1, 0, none⟩) 2 2, [0, 0]) ∨ x = (.slice none 0 0, []) ∨ x = (.slice (some ⟨wr.heap.size + 2, 0, none⟩) 1 1, [255])) with rfl | rfl | rfl | rfl
        · exact ⟨sA, fun b hb => by simp at hb; omega, by simp, by simp⟩
        · exact ⟨sB, fun b hb => by simp at hb; omega, by simp, by simp⟩
        · exact ⟨Sl.nil _, (fun b hb => by cases hb), by simp, by simp⟩
        · exact ⟨sC, fun b hb => by simp at hb; omega, by simp, by simp⟩
      obtain ⟨wL, hwL⟩ : ∃ wL, wL = wC.alloc (.cells #[.slice (some ⟨wr.heap.size, 0, none⟩) 1 1, .slice (some ⟨wr.heap.size + 1, 0, none⟩) 2 2, .slice none 0 0, .slice (some ⟨wr.heap.size + 2, 0, none⟩) 1 1] 24) := ⟨_, rfl⟩
      have kD : Kp [] wC wL := by rw [hwL]; exact (Kp.refl [] wC).alloc _
      have hlen : la.length = 4 := by rw [hla]; rfl
      have HL : Hid (Lists wL (.slice (some ⟨wr.heap.size + 3, 0, none⟩) 4 4) la) := by
        have := lists_of_block (w := wL) (g := wC.heap.size) (l := la) (t := 24) (fr := (0, 0)) (by rw [hla, hwL]; exact heap_alloc_new wC _) (by rw [hla]; simp) (fun x hx => ⟨(hall x hx).1.kept kD (by simp), (hall x hx).2.1⟩)
        rw [zC, hlen] at this
        exact this
      have HAll := hide (fun x hx => (hall x hx).2.2)
      have HKL : Hid (Kp [] w wL) := HKR.out.trans (kA.trans (kB.trans (kC.trans kD)))
      have hwl := hwL
      rw [hwC, hwB, hwA] at hwl
      have HLN := hide hlen
      clear hla hall sA sB sC zA zB zC kA kB kC kD hwA hwB hwC hwL hlen
      go_wp2_with fail
      rw [← hwl]
      clear hwl
      go_loopw [99] (fun i wr' => ∃ k : Nat, k ≤ 4 ∧ i = .int .i64 k ∧ Kp [] wL wr') (fun i _ => 4 - (intOf i).toNat)
      case atStart => exact ⟨0, by omega, rfl, Kp.refl _ _⟩
      case round =>
        obtain ⟨k, hk, rfl, KR⟩ := hrel
        have HKR2 := hide KR
        by_cases hlt4 : k < 4
        · have hlt4' : (k : Int) < 4 := by omega
          have hL := HL.out.kept KR
          obtain ⟨al', cl', e', -, hcell⟩ := hL
          injection e' with e1 e2 e3
          obtain ⟨b, off, eb, hc, hS, hB⟩ := hcell k (by have := HLN.out; omega)
          rw [eb] at e1
          injection e1 with e1
          injection e1 with e4 e5
          subst e4 e5
          obtain ⟨hx2, hx0⟩ := HAll.out (la[k]'(by have := HLN.out; omega)) (List.getElem_mem _)
          obtain ⟨x, hx⟩ : ∃ x, x = la[k]'(by have := HLN.out; omega) := ⟨_, rfl⟩
          rw [← hx] at hc hS hB hx2 hx0
          have HRc := hide (record_any x.1 x.2 _ hS (by omega))
          have HNo := hide (norec (x := x.2) (by omega) hx0)
          have HBx := hide hB
          have HX2 := hide hx2
          obtain ⟨ax, cx, hxs, -⟩ := hS
          obtain ⟨nx, hnx⟩ : ∃ n, n = x.2.length := ⟨_, rfl⟩
          rw [← hnx] at hxs
          rw [hxs] at hc HRc
          rw [Nat.zero_add] at hc
          clear hB hcell hx hx2 hx0 hxs hnx e2 e3 KR eb
          go_wp2_with fail
          refine HRc.out.mono ?_
          rintro ee w5 ⟨a5, m5, c5, rfl, R5, K5⟩
          have HOn := hide (kon_any _ _ w5 R5.sl (recP_bs HBx.out) (by rw [recP_len]; have := HX2.out; omega))
          have HK5 := hide (HKR2.out.trans K5)
          clear R5 K5 HRc
          go_wp2_with fail
          refine HOn.out.mono ?_
          rintro ee w6 ⟨p, rfl, N6⟩
          have HOp := hide (kopen_any N6 rfl (Int.le_refl 0) _ rfl false HNo.out)
          clear N6 HOn
          go_wp2_with fail
          refine HOp.out.mono ?_
          rintro ee w7 (⟨hf, -⟩ | ⟨-, rfl, K7⟩)
          · cases hf
          have HK7 := hide (HK5.out.trans K7)
          clear HOp K7
          go_wp2_with fail
          go_roundw
          case rel => exact ⟨k + 1, by omega, by go_num, HK7.out⟩
          case measure => simp [intOf]; omega
        · obtain rfl : k = 4 := by omega
          clear KR
          go_wp2_with fail
          refine (kopen_nil _).mono ?_
          rintro ee w7 ⟨rfl, hw7⟩
          subst w7
          go_wp2_with fail
          refine (kknown_any _).mono ?_
          rintro ee w8 ⟨rfl, K8⟩
          have HK8 := hide (HKL.out.trans (HKR2.out.trans K8))
          clear K8
          go_wp2_with fail
          go_ret
          exact ⟨rfl, HK8.out.below (Nat.le_refl _) (by simp)⟩

set_option maxRecDepth 100000 in
theorem lifted (os : Os) (started : os.Started) (H : Type) (enc : TypeId × Value → H) :
    ReturnsInHanded {} Try.checked os 3 .any (Rows.keysNumbersSpec.pre6 enc Try.prog Try.f3 Rows.keysNumbersRow.domain false) (Rows.keysNumbersSpec.post enc Try.prog Try.f3 false true false false) := by
  refine returnsInHanded_of_change (C := Try.checked) own started (by kernel_rfl) Try.func3
    (ChangeSpec.witness6 (enc := enc) (C := Try.checked) false ⟨#[], #[], []⟩ 8 (by kernel_rfl) (by kernel_rfl) (by kernel_rfl) (by kernel_rfl)) ?_
  intro W base args ds gs before hval0 hW hcnd _
  have hval : ∀ (j : Nat) t v, Try.f3.params[j]? = some t → args[j]? = some v → Value.okWide Try.prog W .any base t v := hval0
  have hW' := hW
  obtain ⟨p, q, hA0, hV, rfl, hfz, hnd⟩ := hW
  have hA : DataW.TrodAll enc Try.prog W 0 (fun _ => true) true Try.f3.params.toList args.toList ds p := hA0
  rw [Try.params3] at hA hval
  obtain ⟨hargs, rfl, rfl⟩ := trodAll_nil hA
  obtain rfl : args = #[] := by cases args; simp_all
  obtain ⟨rfl, rfl⟩ := trodVars_none hV
  clear hA0 hval0
  refine (walk  W ).mono fun e W' ⟨he, bel⟩ => ?_
  subst he
  exact ⟨_, rfl, _, _, _, [], _, [], hW', trodAll_mk1 (shut_bool Try.underlying4 _), trodAll_mk0, rfl, bel.frame _, fun h => by cases h⟩

theorem over : Rows.keysNumbersRow.holds Try.pinned (OpenSpec.ofChange Rows.keysNumbersSpec) :=
  OpenClaim.holds_of_wide 3 Try.f3 rfl rfl rfl rfl rfl rfl rfl ⟨rfl, rfl, rfl, rfl, rfl⟩ rfl rfl rfl rfl rfl (by kernel_rfl) Try.func3 (by kernel_rfl)
    (of_decide_eq_true (by kernel_rfl)) (by unfold Func.isWrapper; first | (rw [if_pos (by decide +kernel)]; kernel_rfl) | (rw [if_neg (by decide +kernel)]; exact ⟨rfl, rfl⟩))
    (fun os started H enc _ => lifted os started H enc)
end Go.Proofs.Ytjmabnchaglpdaa.keysNumbers

namespace Go.Proofs.Ytjmabnchaglpdaa
/-- The given statement. -/
theorem KeysNumbers_holds : Rows.KeysNumbersSaid := keysNumbers.over
#print axioms KeysNumbers_holds
end Go.Proofs.Ytjmabnchaglpdaa
