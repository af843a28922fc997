/-
  JournalAgain: opened again and again, with records between, a journal has all of them, in order.
-/
import Derived.Test.YtmpjgbckehnkjaaKJArg
import Derived.ShutString
import Derived.ChangeOld
import Derived.Below
namespace Go.Proofs.Ytmpjgbckehnkjaa.journalAgain
open Go.ChangeShapes Go.WideShapes Go.ChangeAt Go.RowKit
open Go.Proofs.Ytmpjgbckehnkjaa
set_option linter.unusedVariables false

theorem own : ownKnob Try.prog.godebug = none := by kernel_rfl
theorem laidOut : laidOutB Try.prog = true := by kernel_rfl
set_option maxHeartbeats 8000000 in
set_option maxRecDepth 100000 in
theorem walk (v0 : Value) (l0 : List (Value × List Int)) (v1 : Value) (l1 : List Bool) (w : World) (s0 : Lists w v0 l0) (s1 : Bools w v1 l1) :
    Calls Try.prog 7 #[v0, v1] w fun e w' => e = .returned (.bool true) ∧ Below w.heap.size w w' := by
  have HF := hide (few_k v0 l0 15 300 w s0 (by omega))
  obtain ⟨al0, cl0, e0, -⟩ := id s0
  obtain ⟨L0, hL0⟩ : ∃ L, L = l0.length := ⟨_, rfl⟩
  rw [← hL0] at e0
  subst e0
  have HS1 := hide (fun w' (k : Kp [] w w') => s1.kept k)
  obtain ⟨ac, cc, e1, hlc, -⟩ := id s1
  obtain ⟨Lc, hLc⟩ : ∃ L, L = l1.length := ⟨_, rfl⟩
  rw [← hLc] at e1 hlc
  subst e1
  have HLc := hide hLc
  clear hL0 s0 s1 hLc
  go_enter Try.func7, Try.ntmps7
  go_wp2_with fail
  refine HF.out.mono ?_
  rintro ee w1 ⟨ol, oc, la, rfl, La, K1, hla, hsm, hro, hrn⟩
  have HOn := hide (on_any (.slice none 0 0) [] w1 (Sl.nil w1) (fun b hb => by cases hb) (by simp))
  have HK1 := hide K1
  have HLa := hide (fun w' (k : Kp [] w1 w') => La.kept k)
  have HSM0 := hide hsm
  have HSM : Hid (∀ x ∈ la, x.2.length ≤ 65535) := fun x hx => Nat.le_trans (hsm x hx) (by omega)
  have HSR : Hid (∀ (k : Nat), ∀ r ∈ (la.take k).map (·.2), r.length ≤ 65535) := fun k r hr => by
    obtain ⟨x, hx, rfl⟩ := List.mem_map.1 hr
    exact HSM.out x (List.mem_of_mem_take hx)
  have HBL : Hid (∀ k, (layP ((la.take k).map (·.2))).length ≤ 5000) := fun k => by
    have := lay_len (la.take k) 15 300 (by simp; omega) (fun x hx => hsm x (List.mem_of_mem_take hx))
    omega
  obtain ⟨L, hL⟩ : ∃ L, L = la.length := ⟨_, rfl⟩
  rw [← hL] at hla hro ⊢
  rw [← hL] at HLa
  have HL := hide hL
  have HRN := hide hrn
  have hlo : (L : Int) ≤ (oc : Int) := by omega
  have hl15 : (L : Int) ≤ 15 := by omega
  clear La K1 hsm hL HF hrn
  go_wp2_with fail
  refine HOn.out.mono ?_
  rintro ee w2 ⟨p, v2, rfl, N2⟩
  have HOp := hide (open_ok N2 rfl (Int.le_refl 0) rfl opnP_nil opn0)
  simp only [List.length_nil] at HOp
  clear N2 HOn
  go_wp2_with fail
  refine HOp.out.mono ?_
  rintro ee w3 ⟨j, v3, a3, c3, l3, rfl, J3, -, -, -, -⟩
  have HJ3 := hide J3
  clear J3 HOp
  go_wp2_with fail
  go_loopw [6, 8, 9] (fun pj e i wr => ∃ (k j : Nat) (v : Value), k ≤ L ∧ pj = .pointer (some ⟨j, 0, none⟩) ∧ e = .int .i64 0 ∧ i = .int .i64 k ∧ Jn w1 wr p v (dkOn (layP ((la.take k).map (·.2)))) j k) (fun _ _ i _ => L - (intOf i).toNat)
  case atStart => exact ⟨0, j, v3, by omega, rfl, rfl, rfl, HJ3.out⟩
  case round =>
    obtain ⟨k, j', v, hk, rfl, rfl, rfl, JK⟩ := hrel
    have HJ := hide JK
    clear JK
    by_cases hlt : k < L
    · have hlt' : (k : Int) < (L : Int) := by omega
      have hLw := HLa.out wr HJ.out.nw.kp
      obtain ⟨ao', c', e', -, hcell⟩ := hLw
      injection e' with e1 e2 e3
      subst e1
      obtain ⟨b, off, rfl, hc, hS, hB⟩ := hcell k (by have := HL.out; omega)
      obtain ⟨x, hx⟩ : ∃ x, x = la[k]'(by have := HL.out; omega) := ⟨_, rfl⟩
      rw [← hx] at hc hS hB
      have hxl : x.2.length ≤ 300 := HSM0.out x (by rw [hx]; exact List.getElem_mem _)
      have he : layP ((la.take (k + 1)).map (·.2)) = layP ((la.take k).map (·.2)) ++ recP x.2 := by
        rw [List.take_succ_eq_append_getElem (by have := HL.out; omega), List.map_append, layP_append, hx]; simp [layP]
      have hbl := HBL.out k
      have hrl : (recP x.2).length ≤ 308 := by rw [recP_len]; omega
      have HAd := hide (jadd_any HJ.out hS hB (by omega) (by omega) true (Dk.add_on _ _ (by omega)) 0 rfl (k + 1) (by rw [Dk.app_on _ _ (by omega), if_pos rfl]))
      rw [← he] at HAd
      obtain ⟨ax, cx, hxs, -⟩ := hS
      obtain ⟨nx, hnx⟩ : ∃ n, n = x.2.length := ⟨_, rfl⟩
      rw [← hnx] at hxs
      rw [hxs] at hc HAd
      have hw1 : IntKind.i64.wrap ((k : Int) + 1) = (k : Int) + 1 := by simp [IntKind.wrap, IntKind.signed, IntKind.bits]; omega
      clear hB hcell hx hxl he hbl hrl hxs hnx e2 e3
      by_cases hcut : k < Lc
      · have hcut' : (k : Int) < (Lc : Int) := by omega
        obtain ⟨b2, off2, tt, hac, HBc⟩ : ∃ b2 off2, ∃ tt : Bool, ac = some ⟨b2, off2, none⟩ ∧ Hid (∀ w', Kp [] w1 w' → w'.cell? ⟨b2, off2 + k, none⟩ = some (.bool tt)) := by
          obtain ⟨aB, cB, eB, -, hbc⟩ := HS1.out w1 HK1.out
          injection eB with f1 f2 f3
          obtain ⟨b2, off2, h1, h2⟩ := hbc k (by have := HLc.out; omega)
          exact ⟨b2, off2, _, by rw [f1]; exact h1, fun w' k' => k'.cell h2 (by simp)⟩
        subst hac
        cases tt
        · go_wp2_with (first
            | (go_at_call 13; refine HAd.out.mono ?_; rintro ee w4 ⟨rfl, v4, J4, -⟩; have HJ4 := hide J4; have hbc4 := HBc.out w4 J4.nw.kp; clear HAd J4)
            | (go_at_call 16; refine (jcount_any HJ4.out).mono ?_; rintro ee w5 ⟨rfl, hw5⟩; subst w5))
          go_roundw
          case rel => exact ⟨k + 1, j', v4, by omega, rfl, rfl, by go_num, HJ4.out⟩
          case measure => simp [intOf]; omega
        · have hk1c : (k : Int) + 1 ≤ (oc : Int) := by omega
          have hk0 : (0 : Int) ≤ (k : Int) + 1 := by omega
          have HOA := hide (opnP_all ((la.take (k + 1)).map (·.2)) (HSR.out (k + 1)))
          have HOB := hide (Dk.opn_all ((la.take (k + 1)).map (·.2)) (HSR.out (k + 1)))
          have hlk : ((la.take (k + 1)).map (·.2)).length = k + 1 := by rw [List.length_map, List.length_take]; have := HL.out; omega
          have HLK := hide hlk
          clear hlk
          go_wp2_with (first
            | (go_at_call 13; refine HAd.out.mono ?_; rintro ee w4 ⟨rfl, v4, J4, -⟩; have HJ4 := hide J4; have hbc4 := HBc.out w4 J4.nw.kp; clear HAd J4; have HO4 := hide (open_ok HJ4.out.nw rfl (Int.le_refl 0) rfl HOA.out HOB.out); rw [HLK.out] at HO4)
            | (go_at_call 16; refine (jcount_any HJ4.out).mono ?_; rintro ee w5 ⟨rfl, hw5⟩; subst w5)
            | (go_at_call 11; refine HO4.out.mono ?_; rintro ee w5 ⟨j5, v5, a5, c5, l5, rfl, J5, -, -, P5, hl5⟩; have HJ5 := hide J5; have HP5 := hide P5.parts; have HL5 := hide hl5; clear HO4 J5 P5 hl5))
          have hl5n : l5.length ≤ 1000 := by
            have := congrArg List.length HL5.out
            rw [HLK.out] at this
            simp at this
            omega
          have hLt : Lists w5 (.slice (some ⟨b, off, none⟩) (k + 1) oc) (la.take (k + 1)) := by
            have h1 := HLa.out w5 HJ5.out.nw.kp
            exact lists_head h1 (k + 1) (by have := HL.out; omega)
          refine (lists_any _ _ l5 (la.take (k + 1)) HL5.out w5 (HP5.out.lists hl5n) hLt).mono ?_
          rintro ee w6 ⟨rfl, K6⟩
          have HJ6 := hide (HJ5.out.on K6)
          clear hl5n hLt K6
          go_wp2_with fail
          go_roundw
          case rel => exact ⟨k + 1, j5, v5, by omega, rfl, rfl, by go_num, HJ6.out⟩
          case measure => simp [intOf]; omega
      · have hcut' : ¬ (k : Int) < (Lc : Int) := by omega
        go_wp2_with (first
          | (go_at_call 13; refine HAd.out.mono ?_; rintro ee w4 ⟨rfl, v4, J4, -⟩; have HJ4 := hide J4; clear HAd J4)
          | (go_at_call 16; refine (jcount_any HJ4.out).mono ?_; rintro ee w5 ⟨rfl, hw5⟩; subst w5))
        go_roundw
        case rel => exact ⟨k + 1, j', v4, by omega, rfl, rfl, by go_num, HJ4.out⟩
        case measure => simp [intOf]; omega
    · obtain rfl : k = L := by omega
      have hX : la.take k = la := List.take_of_length_le (by have := HL.out; omega)
      rw [hX] at HJ
      have hsr := HSR.out k
      rw [hX] at hsr
      have HOA := hide (opnP_all _ hsr)
      have HOB := hide (Dk.opn_all _ hsr)
      have HO4 := hide (open_ok HJ.out.nw rfl (Int.le_refl 0) rfl HOA.out HOB.out)
      obtain ⟨mm, hmm⟩ : ∃ m, m = (la.map (·.2)).length := ⟨_, rfl⟩
      rw [← hmm] at HO4
      have HMM := hide hmm
      have hlt' : ¬ (k : Int) < (k : Int) := by omega
      clear hX hsr hmm
      go_wp2_with fail
      refine HO4.out.mono ?_
      rintro ee w6 ⟨j6, v6, am, cm, l6, rfl, J6, -, -, P6, hl6⟩
      have HJ6 := hide J6
      clear HO4
      go_wp2_with fail
      obtain ⟨B, hB⟩ : ∃ B, B = layP (la.map (·.2)) := ⟨_, rfl⟩
      rw [← hB] at HJ6
      have HB0 := hide hB
      obtain ⟨T, hT⟩ : ∃ T, T = strOfNums B := ⟨_, rfl⟩
      have HT := hide hT
      have KW : ∀ w', Kp [] w6.drew w' → Kp [] w6 w' := fun w' k => (kp_drew w6).trans k
      have HLM : Hid (l6.map (·.2) = la.map (·.2)) := hl6
      have HLN : Hid (la.length ≤ 1000) := by have := HL.out; exact hide (by omega)
      have HLl : Hid (∀ w', Kp [] w6.drew w' → Lists w' (.slice am mm cm) l6) := fun w' k' => (P6.parts.kept (KW w' k')).lists (by have := congrArg List.length hl6; simp at this; have := HLN.out; omega)
      have HLr : Hid (∀ w', Kp [] w6.drew w' → Lists w' (.slice ol k oc) la) := fun w' k' => HLa.out w' (J6.nw.kp.trans (KW w' k'))
      have HD : Hid (∀ w', Kp [] w6.drew w' → DskP w' w1.heap.size p v6 (dkOn B)) := fun w' k' => HJ6.out.nw.dk.keptN (KW w' k')
      clear hB hT hl6 J6 P6 KW
      refine region_grow Try.mixed [Is (.int .i64 0), Is (.bool true), Is (.bool true), Is (.slice am mm cm), Is (.slice ol k oc), Is (.bool true), Is (.bool true), Is (.bool true), Is (.pointer (some ⟨p, 0, none⟩)), SlT (B), Is (.string T), Is (.slice ol k oc), SlT (B), Is (.string T), Is (.bool true), Is (.bool true), Is (.bool true), Is (.bool true), Is (.bool true), Is (.bool true)] [[(13, none)], [(86, some 0)], [(87, some 1)], [(12, none), (88, some 2)], [(0, none), (88, some 2)], [(89, some 3), (90, some 4), (88, some 2)], [(88, some 2), (91, some 5)], [(92, some 6)], [(5, none), (93, some 7)], [(94, some 8), (93, some 7)], [(95, some 9), (93, some 7)], [(0, none), (93, some 7)], [(97, some 11), (93, some 7)], [(98, some 12), (93, some 7)], [(96, some 10), (99, some 13), (93, some 7)], [(93, some 7), (100, some 14)], [(101, some 15)], [(102, some 16)], [(102, some 16), (103, some 17)], [(104, some 18)]] (by kernel_rfl) ?_ ?_ ?_
      · simp only [List.mem_cons, List.not_mem_nil, or_false]
        intro R hR
        rcases hR with rfl | rfl | rfl | rfl | rfl | rfl | rfl | rfl | rfl | rfl | rfl | rfl | rfl | rfl | rfl | rfl | rfl | rfl | rfl | rfl <;> first | exact stable_is _ | exact stable_sl _
      · refine steps_cons (fun a w hk hn => ?_) ?_
        · have h13 : a.eval (.tmp 13) = .int .i64 0 := hn.1
          clear hn
          refine wants_plain rfl ?_
          exact grown_move (.tmp 13) rfl h13
        refine steps_cons (fun a w hk hn => ?_) ?_
        · have h86 : a.eval (.tmp 86) = .int .i64 0 := hn.1
          clear hn
          refine wants_plain rfl ?_
          refine grown_run (v := .bool true) ?_ (Kp.refl _ _) rfl
          obtain ⟨ρ, hρ, hc, hf, hg⟩ := eval_is a
          rw [hρ] at h86 ⊢
          simp [go_sem, hc, h86]
        refine steps_cons (fun a w hk hn => ?_) ?_
        · have h87 : a.eval (.tmp 87) = .bool true := hn.1
          clear hn
          refine wants_plain rfl ?_
          exact grown_move (.tmp 87) rfl h87
        refine steps_cons (fun a w hk hn => ?_) ?_
        · have h12 : a.eval (.tmp 12) = .slice am mm cm := hn.1
          have h88 : a.eval (.tmp 88) = .bool true := hn.2.1
          clear hn
          refine wants_guard (d := 88) rfl rfl h88 ?_
          exact grown_move (.tmp 12) rfl h12
        refine steps_cons (fun a w hk hn => ?_) ?_
        · have h0 : a.eval (.tmp 0) = .slice ol k oc := hn.1
          have h88 : a.eval (.tmp 88) = .bool true := hn.2.1
          clear hn
          refine wants_guard (d := 88) rfl rfl h88 ?_
          exact grown_move (.tmp 0) rfl h0
        refine steps_cons (fun a w hk hn => ?_) ?_
        · have h89 : a.eval (.tmp 89) = .slice am mm cm := hn.1
          have h90 : a.eval (.tmp 90) = .slice ol k oc := hn.2.1
          have h88 : a.eval (.tmp 88) = .bool true := hn.2.2.1
          clear hn
          refine wants_guard (d := 88) rfl rfl h88 ?_
          refine grown_call (f := 28) rfl Try.func28 (by kernel_rfl) (by kernel_rfl) ?_
          simp only [List.map_toArray, List.map_cons, List.map_nil, h89, h90]
          refine (lists_any _ _ _ _ (unhide HLM) w (unhide HLl w hk) (unhide HLr w hk)).mono ?_
          rintro e w' ⟨rfl, K⟩
          exact ⟨_, rfl, K, rfl⟩
        refine steps_cons (fun a w hk hn => ?_) ?_
        · have h88 : a.eval (.tmp 88) = .bool true := hn.1
          have h91 : a.eval (.tmp 91) = .bool true := hn.2.1
          clear hn
          refine wants_plain rfl ?_
          exact grown_pick _ _ _ true rfl h88 h91
        refine steps_cons (fun a w hk hn => ?_) ?_
        · have h92 : a.eval (.tmp 92) = .bool true := hn.1
          clear hn
          refine wants_plain rfl ?_
          exact grown_move (.tmp 92) rfl h92
        refine steps_cons (fun a w hk hn => ?_) ?_
        · have h5 : a.eval (.tmp 5) = .pointer (some ⟨p, 0, none⟩) := hn.1
          have h93 : a.eval (.tmp 93) = .bool true := hn.2.1
          clear hn
          refine wants_guard (d := 93) rfl rfl h93 ?_
          exact grown_move (.tmp 5) rfl h5
        refine steps_cons (fun a w hk hn => ?_) ?_
        · have h94 : a.eval (.tmp 94) = .pointer (some ⟨p, 0, none⟩) := hn.1
          have h93 : a.eval (.tmp 93) = .bool true := hn.2.1
          clear hn
          refine wants_guard (d := 93) rfl rfl h93 ?_
          refine grown_call (f := 25) rfl Try.func25 (by kernel_rfl) (by kernel_rfl) ?_
          simp only [List.map_toArray, List.map_cons, List.map_nil, h94]
          refine (dbytes_any p v6 _ _ w (unhide HD w hk)).mono ?_
          rintro e w' ⟨ao, m, c, rfl, R, K⟩
          exact ⟨_, rfl, K, R.sl⟩
        refine steps_cons (fun a w hk hn => ?_) ?_
        · have h95 : Sl w (a.eval (.tmp 95)) (B) := hn.1
          have h93 : a.eval (.tmp 93) = .bool true := hn.2.1
          clear hn
          refine wants_guard (d := 93) rfl rfl h93 ?_
          exact grown_conv (.tmp 95) _ _ 5 _ rfl h95 Try.underlying22 Try.underlying5 Try.underlying9 (congrArg Value.string (unhide HT).symm)
        refine steps_cons (fun a w hk hn => ?_) ?_
        · have h0 : a.eval (.tmp 0) = .slice ol k oc := hn.1
          have h93 : a.eval (.tmp 93) = .bool true := hn.2.1
          clear hn
          refine wants_guard (d := 93) rfl rfl h93 ?_
          exact grown_move (.tmp 0) rfl h0
        refine steps_cons (fun a w hk hn => ?_) ?_
        · have h97 : a.eval (.tmp 97) = .slice ol k oc := hn.1
          have h93 : a.eval (.tmp 93) = .bool true := hn.2.1
          clear hn
          refine wants_guard (d := 93) rfl rfl h93 ?_
          refine grown_call (f := 9) rfl Try.func9 (by kernel_rfl) (by kernel_rfl) ?_
          simp only [List.map_toArray, List.map_cons, List.map_nil, h97]
          refine (lay_any _ la w (unhide HLr w hk) (unhide HSM) (unhide HLN)).mono ?_
          rintro e w' ⟨ao, m, c, rfl, R, K⟩
          rw [← unhide HB0] at R
          exact ⟨_, rfl, K, R.sl⟩
        refine steps_cons (fun a w hk hn => ?_) ?_
        · have h98 : Sl w (a.eval (.tmp 98)) (B) := hn.1
          have h93 : a.eval (.tmp 93) = .bool true := hn.2.1
          clear hn
          refine wants_guard (d := 93) rfl rfl h93 ?_
          exact grown_conv (.tmp 98) _ _ 5 _ rfl h98 Try.underlying22 Try.underlying5 Try.underlying9 (congrArg Value.string (unhide HT).symm)
        refine steps_cons (fun a w hk hn => ?_) ?_
        · have h96 : a.eval (.tmp 96) = .string T := hn.1
          have h99 : a.eval (.tmp 99) = .string T := hn.2.1
          have h93 : a.eval (.tmp 93) = .bool true := hn.2.2.1
          clear hn
          refine wants_guard (d := 93) rfl rfl h93 ?_
          refine grown_run (v := .bool true) ?_ (Kp.refl _ _) rfl
          obtain ⟨ρ, hρ, hc, hf, hg⟩ := eval_is a
          rw [hρ] at h96 h99 ⊢
          simp [go_sem, h96, h99]
        refine steps_cons (fun a w hk hn => ?_) ?_
        · have h93 : a.eval (.tmp 93) = .bool true := hn.1
          have h100 : a.eval (.tmp 100) = .bool true := hn.2.1
          clear hn
          refine wants_plain rfl ?_
          exact grown_pick _ _ _ true rfl h93 h100
        refine steps_cons (fun a w hk hn => ?_) ?_
        · have h101 : a.eval (.tmp 101) = .bool true := hn.1
          clear hn
          refine wants_plain rfl ?_
          exact grown_move (.tmp 101) rfl h101
        refine steps_cons (fun a w hk hn => ?_) ?_
        · have h102 : a.eval (.tmp 102) = .bool true := hn.1
          clear hn
          refine wants_guard (d := 102) rfl rfl h102 ?_
          refine grown_call (f := 17) rfl Try.func17 (by kernel_rfl) (by kernel_rfl) ?_
          simp only [List.map_toArray, List.map_nil]
          refine (jknown_any w).mono ?_
          rintro e w' ⟨rfl, K⟩
          exact ⟨_, rfl, K, rfl⟩
        refine steps_cons (fun a w hk hn => ?_) ?_
        · have h102 : a.eval (.tmp 102) = .bool true := hn.1
          have h103 : a.eval (.tmp 103) = .bool true := hn.2.1
          clear hn
          refine wants_plain rfl ?_
          exact grown_pick _ _ _ true rfl h102 h103
        refine steps_cons (fun a w hk hn => ?_) ?_
        · have h104 : a.eval (.tmp 104) = .bool true := hn.1
          clear hn
          refine wants_plain rfl ?_
          exact grown_assign (.tmp 104) rfl h104
        exact trivial
      intro W1 hkW1
      rintro _ rfl
      rintro _ rfl
      rintro _ rfl
      rintro _ rfl
      rintro _ rfl
      rintro _ rfl
      rintro _ rfl
      rintro _ rfl
      rintro _ rfl
      intro v95 h95
      rintro _ rfl
      rintro _ rfl
      intro v98 h98
      rintro _ rfl
      rintro _ rfl
      rintro _ rfl
      rintro _ rfl
      rintro _ rfl
      rintro _ rfl
      rintro _ rfl
      refine fin_nil ?_
      simp only [Act.put, List.set_cons_zero, List.set_cons_succ, List.setIfInBounds_toArray]
      go_wp2_with fail
      go_ret
      exact ⟨rfl, (HK1.out.trans (HJ6.out.nw.kp.trans ((kp_drew w6).trans hkW1))).below (Nat.le_refl _) (by simp)⟩

set_option maxRecDepth 100000 in
theorem lifted (os : Os) (started : os.Started) (H : Type) (enc : TypeId × Value → H) :
    ReturnsInHanded {} Try.checked os 7 .any (Rows.journalAgainSpec.pre6 enc Try.prog Try.f7 Rows.journalAgainRow.domain false) (Rows.journalAgainSpec.post enc Try.prog Try.f7 false true false false) := by
  refine returnsInHanded_of_change (C := Try.checked) own started (by kernel_rfl) Try.func7
    (ChangeSpec.witness6 (enc := enc) (C := Try.checked) false ⟨#[], #[.slice none 0 0, .slice none 0 0], []⟩ 8 (by kernel_rfl) (by kernel_rfl) (by kernel_rfl) (by kernel_rfl)) ?_
  intro W base args ds gs before hval0 hW hcnd _
  have hval : ∀ (j : Nat) t v, Try.f7.params[j]? = some t → args[j]? = some v → Value.okWide Try.prog W .any base t v := hval0
  have hW' := hW
  obtain ⟨p, q, hA0, hV, rfl, hfz, hnd⟩ := hW
  have hA : DataW.TrodAll enc Try.prog W 0 (fun _ => true) true Try.f7.params.toList args.toList ds p := hA0
  rw [Try.params7] at hA hval
  obtain ⟨v0, vs0, d0, ds0, p0, q0, hargs, rfl, rfl, h0, r0⟩ := trodAll_cons hA
  obtain ⟨v1, vs1, d1, ds1, p1, q1, rfl, rfl, rfl, h1, r1⟩ := trodAll_cons r0
  obtain ⟨rfl, rfl, rfl⟩ := trodAll_nil r1
  obtain rfl : args = #[v0, v1] := by cases args; simp_all
  obtain ⟨rfl, rfl⟩ := trodVars_none hV
  obtain ⟨a0, len0, cap0, rfl⟩ := okWide_slice Try.underlying24 (hval 0 24 v0 rfl rfl)
  have k0 := h0
  have lt0 : ∀ x ∈ p0, x.block < W.heap.size := by obtain ⟨m, hm⟩ := k0; exact DataW.trod_lt m _ _ _ hm
  obtain ⟨l0, s0⟩ : ∃ l, Lists W (.slice a0 len0 cap0) l := by
    obtain ⟨fuel, hf⟩ := h0
    exact lists_of_trod (by simpa [Value.cells] using hf)
  obtain ⟨a1, len1, cap1, rfl⟩ := okWide_slice Try.underlying51 (hval 1 51 v1 rfl rfl)
  have k1 := h1
  have lt1 : ∀ x ∈ p1, x.block < W.heap.size := by obtain ⟨m, hm⟩ := k1; exact DataW.trod_lt m _ _ _ hm
  obtain ⟨l1, s1⟩ : ∃ l, Bools W (.slice a1 len1 cap1) l := by
    obtain ⟨fuel, hf⟩ := h1
    exact bools_of_trod (by simpa [Value.cells] using hf)
  clear hA0 hval0
  refine (walk (.slice a0 len0 cap0) l0 (.slice a1 len1 cap1) l1 W s0 s1).mono fun e W' ⟨he, bel⟩ => ?_
  subst he
  exact ⟨_, rfl, _, _, _, [], _, [], hW', trodAll_mk1 (shut_bool Try.underlying4 _), (trodAll_cons_mk (Below.trod laidOut (by kernel_rfl) (of_decide_eq_true (by kernel_rfl)) k0 bel lt0) (trodAll_cons_mk (Below.trod laidOut (by kernel_rfl) (of_decide_eq_true (by kernel_rfl)) k1 bel lt1) trodAll_mk0)), rfl, bel.frame _, fun h => by cases h⟩

theorem over : Rows.journalAgainRow.holds Try.pinned (OpenSpec.ofChange Rows.journalAgainSpec) :=
  OpenClaim.holds_of_wide 7 Try.f7 rfl rfl rfl rfl rfl rfl rfl ⟨rfl, rfl, rfl, rfl, rfl⟩ rfl rfl rfl rfl rfl (by kernel_rfl) Try.func7 (by kernel_rfl)
    (of_decide_eq_true (by kernel_rfl)) (by unfold Func.isWrapper; first | (rw [if_pos (by decide +kernel)]; kernel_rfl) | (rw [if_neg (by decide +kernel)]; exact ⟨rfl, rfl⟩))
    (fun os started H enc _ => lifted os started H enc)
end Go.Proofs.Ytmpjgbckehnkjaa.journalAgain

namespace Go.Proofs.Ytmpjgbckehnkjaa
/-- The given statement. -/
theorem JournalAgain_holds : Rows.JournalAgainSaid := journalAgain.over
#print axioms JournalAgain_holds
end Go.Proofs.Ytmpjgbckehnkjaa
