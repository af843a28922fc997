/-
  For every number, size and bool: what is put comes out in order, no more than a batch at a time; what is put back comes first.
-/
import Derived.Test.YtfepkcjelecpkaaQOBatchOrders8
namespace Go.Proofs.Ytfepkcjelecpkaa.batchOrders
open Go.ChangeShapes Go.WideShapes Go.ChangeAt Go.RowKit
open Go.Proofs.Ytfepkcjelecpkaa
set_option linter.unusedVariables false
theorem own : ownKnob Try.prog.godebug = none := by kernel_rfl
/-- the items that are put, and what is left of them. -/
def ordI (k : Nat) : List It := (List.range k).map (fun j : Nat => ⟨[(j : Int)], (j : Int)⟩)
def ordL (a k : Nat) : List (List Int) := ((List.range k).drop a).map (fun j : Nat => [(j : Int)])
theorem ordI_len (k : Nat) : (ordI k).length = k := by simp [ordI]
theorem ordI_succ (k : Nat) : ordI (k + 1) = ordI k ++ [⟨[(k : Int)], (k : Int)⟩] := by simp [ordI, List.range_succ]
theorem ordI_bs (k : Nat) : (ordI k).map It.bs = ordL 0 k := by simp [ordI, ordL]
theorem ordL_len (a k : Nat) : (ordL a k).length = k - a := by simp [ordL]
theorem ordL_drop (a k m : Nat) : (ordL a k).drop m = ordL (a + m) k := by simp [ordL, List.drop_drop]
theorem ordL_get (a k i : Nat) (h : i < (ordL a k).length) : (ordL a k)[i] = [((a + i : Nat) : Int)] := by simp [ordL]
theorem tk_get (a N j : Nat) (l1 l2 : List (List Int)) (h : l1 ++ l2 = ordL a N) (hj : j < l1.length) : l1[j] = [((a + j : Nat) : Int)] := by
  have h1 : (l1 ++ l2)[j]? = some l1[j] := by rw [List.getElem?_append_left hj, List.getElem?_eq_getElem hj]
  rw [h] at h1
  have hl : j < (ordL a N).length := by rw [← h, List.length_append]; omega
  rw [List.getElem?_eq_getElem hl, ordL_get] at h1
  exact (Option.some.inj h1).symm
theorem one_byte {w : World} {v : Value} {x : Int} (h : Sl w v [x]) : ∃ b off c, v = .slice (some ⟨b, off, none⟩) 1 c ∧ w.cell? ⟨b, off, none⟩ = some (.int .u8 x) := by
  obtain ⟨ao, c, rfl, h1, h2, h3, h4⟩ := h
  cases ao with
  | none => have := h3 rfl; simp at h1; omega
  | some ad =>
    have hc := h4 ad rfl 0 (.int .u8 x) rfl
    have hs := World.cell?_spot hc
    rw [Addr.add_zero'] at hc hs
    obtain ⟨b, off, spot⟩ := ad
    simp only at hs
    subst hs
    exact ⟨b, off, c, rfl, hc⟩
theorem ord_due (S : Int) (li : List (Value × List Int)) (l : List It) (hl : 0 < li.length) : Qd.due ⟨16, S, 5, li.map (fun x => evr x.2) ++ l⟩ 0 = true := by
  cases li with
  | nil => simp at hl
  | cons x li => simp [Qd.due, evr, oldP]
set_option maxHeartbeats 8000000 in
set_option maxRecDepth 100000 in
theorem walkT (n size : Int) (w : World) (hn : -9223372036854775808 ≤ n ∧ n ≤ 9223372036854775807) (hs : -9223372036854775808 ≤ size ∧ size ≤ 9223372036854775807) :
    Calls Try.prog 5 #[.int .i64 n, .int .i64 size, .bool true] w fun e w' => e = .returned (.bool true) ∧ Below w.heap.size w w' := by
  have h1 := wiP_ge n 0 16 (by omega)
  have h2 := wiP_ge size 1 8 (by omega)
  have HW1 := hide (within_wi n 0 16 w (by omega) (by omega) (by omega))
  have HW2 := hide (within_wi size 1 8 w (by omega) (by omega) (by omega))
  obtain ⟨N, hN⟩ : ∃ N : Nat, (N : Int) = wiP n 0 16 := ⟨(wiP n 0 16).toNat, by omega⟩
  obtain ⟨S, hS⟩ : ∃ S : Nat, (S : Int) = wiP size 1 8 := ⟨(wiP size 1 8).toNat, by omega⟩
  rw [← hN] at h1 HW1
  rw [← hS] at h2 HW2
  have hN16 : N ≤ 16 := by omega
  have hS1 : 1 ≤ S := by omega
  have hS8 : S ≤ 8 := by omega
  clear hN hS h1 h2
  have HN := hide (nb_new 16 (S : Int) 5 w (by omega) (by omega) (by omega) (by omega) (by omega) (by omega))
  go_enter Try.func5, Try.ntmps5
  go_wp2_with (first
    | (go_at_call 11; refine HW1.out.mono ?_; rintro e w1 ⟨rfl, hw⟩; subst w1; clear HW1)
    | (go_at_call 11; refine HW2.out.mono ?_; rintro e w1 ⟨rfl, hw⟩; subst w1; clear HW2)
    | (go_at_call 8; refine HN.out.mono ?_; rintro e w1 ⟨p, rfl, N1⟩; clear HN; have HN1 := hide N1; clear N1))
  go_loopw [11] (fun i wr => ∃ k : Nat, k ≤ N ∧ i = .int .i64 k ∧ Nb w wr p ⟨16, S, 5, ordI k⟩) (fun i _ => N - (intOf i).toNat)
  case atStart => exact ⟨0, by omega, rfl, by simpa [ordI] using HN1.out⟩
  case round =>
    obtain ⟨k, hk, rfl, NK⟩ := hrel
    have HNK := hide NK
    clear NK HN1
    by_cases hlt : k < N
    · have hlt' : (k : Int) < (N : Int) := by omega
      have h8 : IntKind.u8.wrap (k : Int) = k := by simp [IntKind.wrap, IntKind.signed, IntKind.bits]; omega
      have HP := hide (nb_put (HNK.out.keptN ((Kp.refl [] wr).alloc (.cells #[.int .u8 (k : Int)] 5 (0, 0)))) k (by show ((ordI k).length : Int) < 16; rw [ordI_len]; omega) (lit_sl wr [(k : Int)] 1 (0, 0) rfl (by omega)) (fun b hb => by simp at hb; omega) (by simp) (by omega) (by omega) ⟨16, S, 5, ordI (k + 1)⟩ (by rw [ordI_succ]))
      go_wp2_with (go_at_call 12; refine HP.out.mono ?_; rintro e w2 ⟨rfl, N2, -⟩; clear HP; have HN2 := hide N2; clear N2)
      go_roundw
      case rel => exact ⟨k + 1, by omega, by go_num, HN2.out⟩
      case measure => simp [intOf]; omega
    · have hnlt : ¬ (k : Int) < (N : Int) := by omega
      have HR : Hid (Nb w wr p ⟨16, S, 5, ordI N⟩) := by have := HNK.out; rw [show k = N by omega] at this; exact this
      clear HNK
      go_wp2_with fail
      go_loopw [12, 13] (fun o i wt => ∃ (t a : Nat) (ms : List It), o = .int .i64 a ∧ i = .int .i64 t ∧ a ≤ N ∧ 2 * (N - a) + t ≤ 32 + t % 2 ∧ Hid (ms.map It.bs = ordL a N) ∧ Nb w wt p ⟨16, S, 5, ms⟩) (fun _ i _ => 40 - (intOf i).toNat)
      case atStart => exact ⟨0, 0, ordI N, rfl, rfl, by omega, by omega, ordI_bs N, HR.out⟩
      case round =>
        obtain ⟨t, a1, ms, rfl, rfl, ha, hin, HM, NT⟩ := hrel
        have HNT := hide NT
        clear NT HR
        have ht40 : t < 40 := by omega
        have ht40' : (t : Int) < 40 := by omega
        have hml : ms.length = N - a1 := by have := congrArg List.length HM.out; rw [List.length_map, ordL_len] at this; exact this
        by_cases hz : a1 = N
        · have HL := hide (nb_len HNT.out 0 (by rw [hml]; omega))
          have haN : ((a1 : Int) == (N : Int)) = true := by simp; omega
          clear hml hz
          go_wp2_with (first
            | (go_at_call 13; refine HL.out.mono ?_; rintro e w3 ⟨rfl, hw⟩; subst w3; clear HL)
            | (go_at_call 10; refine (bknown_any _).mono ?_; rintro e w5 ⟨rfl, k5⟩))
          go_ret
          exact ⟨rfl, (HNT.out.kp.trans k5).below (Nat.le_refl _) (by simp)⟩
        · obtain ⟨m, hm⟩ : ∃ m, m = ms.length := ⟨_, rfl⟩
          have hm0 : 0 < m := by omega
          have hm0' : (0 : Int) < (m : Int) := by omega
          obtain ⟨K, hK⟩ : ∃ K, K = min S m := ⟨_, rfl⟩
          have hK0 : 0 < K := by omega
          have hKz : ¬ (K : Int) = 0 := by omega
          have hKz' : ((K : Int) == 0) = false := by simpa using hKz
          have hKS : ¬ (K : Int) > (S : Int) := by omega
          have hKm : K ≤ m := by omega
          have hm16 : m ≤ 16 := by omega
          have hma : m = N - a1 := by rw [hm]; exact hml
          have HL := hide (nb_len HNT.out m hm)
          have HT := hide (nb_take HNT.out K (by rw [hK, hm]; show _ = min (S : Int).toNat ms.length; omega) ⟨16, S, 5, ms.drop K⟩ rfl)
          have HDL : Hid ((ms.drop K).length = m - K) := by show _ = _; rw [List.length_drop, ← hm]
          have HKS2 : Hid ((K : Int) < (S : Int) → m - K = 0) := fun hh => by omega
          have HMT : Hid ((ms.take K).map It.bs ++ (ms.drop K).map It.bs = ordL a1 N) := by show _ = _; rw [← List.map_append, List.take_append_drop]; exact HM.out
          have HTL : Hid (((ms.take K).map It.bs).length = K) := by show _ = _; rw [List.length_map, List.length_take, ← hm]; omega
          have HDD : Hid ((ms.drop K).map It.bs = ordL (a1 + K) N) := by show _ = _; rw [List.map_drop, HM.out, ordL_drop]
          have HAN : Hid (a1 + K ≤ N) := by show _ ≤ _; omega
          clear hm hK hml hma
          have hpp : t % 2 = 0 ∨ t % 2 = 1 := by omega
          have htm := Int.ofNat_tmod t 2
          by_cases hl : (K : Int) < (S : Int)
          · have hld : decide ((K : Int) < (S : Int)) = true := decide_eq_true hl
            rcases hpp with hp | hp
            · have hp1 : (t : Int).tmod 2 = 0 := by rw [hp] at htm; exact htm.symm
              have HIN : Hid (2 * (N - a1) + (t + 1) ≤ 32 + (t + 1) % 2) := by show _ ≤ _; omega
              clear hp htm hin
              go_wp2_with (first
                | (go_at_call 13; refine HL.out.mono ?_; rintro e w3 ⟨rfl, hw⟩; subst w3; clear HL)
                | (go_at_call 14; refine HT.out.mono ?_; rintro e w3 ⟨ao3, c3, rfl, T3, N3, -⟩; clear HT; have HT3 := hide T3; have HN3 := hide N3; clear T3; have HL2 := hide (nb_len N3 0 (by show 0 = (ms.drop K).length; rw [HDL.out, HKS2.out hl])); clear N3; refine Hid.out ?_))
              refine hide ?_
              obtain ⟨li, hli, hlm⟩ := HT3.out.lists (by rw [HTL.out]; omega)
              have hlL : li.length = K := by rw [← List.length_map (f := (·.2)), hlm]; exact HTL.out
              have hl1 : ∀ x ∈ li, x.2.length ≤ 1000 := fun x hx => by
                have h3 : x.2 ∈ ordL a1 N := by rw [← HMT.out, ← hlm]; exact List.mem_append_left _ (List.mem_map.2 ⟨x, hx, rfl⟩)
                obtain ⟨j, _, e⟩ := List.mem_map.1 h3
                rw [← e]; simp
              have HBK := hide (nb_back HN3.out li hli hl1 (by show (ms.drop K).length + li.length ≤ 1000; rw [HDL.out, hlL]; omega) _ rfl)
              have HMB : Hid ((li.map (fun x => evr x.2) ++ ms.drop K).map It.bs = ordL a1 N) := by show _ = _; rw [List.map_append, List.map_map, ← HMT.out, ← hlm]; rfl
              have HDB : Hid (true = Qd.due ⟨16, S, 5, li.map (fun x => evr x.2) ++ ms.drop K⟩ 0) := (ord_due S li (ms.drop K) (by omega)).symm
              clear hli hlm hlL hl1
              go_wp2_with (first
                | (go_at_call 13; refine HL2.out.mono ?_; rintro e w4 ⟨rfl, hw⟩; subst w4; clear HL2)
                | (go_at_call 15; refine HBK.out.mono ?_; rintro e w5 ⟨rfl, N5, -⟩; clear HBK; have HD := hide (nb_due N5 0 (by omega) (by omega) true HDB.out); clear N5)
                | (go_at_call 16; refine HD.out.mono ?_; rintro e w6 ⟨rfl, -, N6⟩; clear HD; have HN6 := hide N6; clear N6))
              go_roundw
              case rel => exact ⟨t + 1, a1, _, rfl, by go_num, ha, HIN.out, HMB.out, HN6.out⟩
              case measure => simp [intOf]; omega
            · have hp1 : (t : Int).tmod 2 = 1 := by rw [hp] at htm; exact htm.symm
              have HIN : Hid (2 * (N - (a1 + K)) + (t + 1) ≤ 32 + (t + 1) % 2) := by have := HAN.out; show _ ≤ _; omega
              clear hp htm hin
              go_wp2_with (first
                | (go_at_call 13; refine HL.out.mono ?_; rintro e w3 ⟨rfl, hw⟩; subst w3; clear HL)
                | (go_at_call 14; refine HT.out.mono ?_; rintro e w3 ⟨ao3, c3, rfl, T3, N3, -⟩; clear HT; have HT3 := hide T3; have HN3 := hide N3; clear T3; have HL2 := hide (nb_len N3 0 (by show 0 = (ms.drop K).length; rw [HDL.out, HKS2.out hl])); clear N3)
                | (go_at_call 13; refine HL2.out.mono ?_; rintro e w4 ⟨rfl, hw⟩; subst w4; clear HL2))
              go_loopw [12, 15] (fun o i wq => ∃ j : Nat, j ≤ K ∧ o = .int .i64 ((a1 + j : Nat) : Int) ∧ i = .int .i64 j ∧ wq = w3) (fun _ i _ => K - (intOf i).toNat)
              case atStart => exact ⟨0, by omega, rfl, rfl, rfl⟩
              case round =>
                obtain ⟨j, hj, rfl, rfl, hwq⟩ := hrel
                subst hwq
                by_cases hjK : j < K
                · have hjK' : (j : Int) < (K : Int) := by omega
                  have hjl : j < ((ms.take K).map It.bs).length := by rw [HTL.out]; exact hjK
                  obtain ⟨g, vx, rfl, c0, hSx⟩ := HT3.out.at j hjl
                  rw [tk_get a1 N j _ _ HMT.out hjl] at hSx
                  obtain ⟨b, off, c, rfl, c1⟩ := one_byte hSx
                  have haj : ((a1 + j : Nat) : Int) ≤ 16 := by have := HAN.out; omega
                  clear hSx hjl
                  go_wp2_with fail
                  go_roundw
                  case rel => exact ⟨j + 1, by omega, by go_num, by go_num, by trivial⟩
                  case measure => simp [intOf]; omega
                · have HJ : Hid (j = K) := by show _ = _; omega
                  have hjn : ¬ (j : Int) < (K : Int) := by omega
                  go_wp2_with fail
                  go_roundw
                  case rel => exact ⟨t + 1, a1 + j, ms.drop K, rfl, by go_num, by have := HJ.out; have := HAN.out; omega, by rw [HJ.out]; exact HIN.out, by rw [HJ.out]; exact HDD.out, HN3.out⟩
                  case measure => simp [intOf]; omega
          · have hld : decide ((K : Int) < (S : Int)) = false := decide_eq_false hl
            rcases hpp with hp | hp
            · have hp1 : (t : Int).tmod 2 = 0 := by rw [hp] at htm; exact htm.symm
              have HIN : Hid (2 * (N - a1) + (t + 1) ≤ 32 + (t + 1) % 2) := by show _ ≤ _; omega
              clear hp htm hin
              go_wp2_with (first
                | (go_at_call 13; refine HL.out.mono ?_; rintro e w3 ⟨rfl, hw⟩; subst w3; clear HL)
                | (go_at_call 14; refine HT.out.mono ?_; rintro e w3 ⟨ao3, c3, rfl, T3, N3, -⟩; clear HT; have HT3 := hide T3; have HN3 := hide N3; clear T3; clear N3; refine Hid.out ?_))
              refine hide ?_
              obtain ⟨li, hli, hlm⟩ := HT3.out.lists (by rw [HTL.out]; omega)
              have hlL : li.length = K := by rw [← List.length_map (f := (·.2)), hlm]; exact HTL.out
              have hl1 : ∀ x ∈ li, x.2.length ≤ 1000 := fun x hx => by
                have h3 : x.2 ∈ ordL a1 N := by rw [← HMT.out, ← hlm]; exact List.mem_append_left _ (List.mem_map.2 ⟨x, hx, rfl⟩)
                obtain ⟨j, _, e⟩ := List.mem_map.1 h3
                rw [← e]; simp
              have HBK := hide (nb_back HN3.out li hli hl1 (by show (ms.drop K).length + li.length ≤ 1000; rw [HDL.out, hlL]; omega) _ rfl)
              have HMB : Hid ((li.map (fun x => evr x.2) ++ ms.drop K).map It.bs = ordL a1 N) := by show _ = _; rw [List.map_append, List.map_map, ← HMT.out, ← hlm]; rfl
              have HDB : Hid (true = Qd.due ⟨16, S, 5, li.map (fun x => evr x.2) ++ ms.drop K⟩ 0) := (ord_due S li (ms.drop K) (by omega)).symm
              clear hli hlm hlL hl1
              go_wp2_with (first
                | (go_at_call 15; refine HBK.out.mono ?_; rintro e w5 ⟨rfl, N5, -⟩; clear HBK; have HD := hide (nb_due N5 0 (by omega) (by omega) true HDB.out); clear N5)
                | (go_at_call 16; refine HD.out.mono ?_; rintro e w6 ⟨rfl, -, N6⟩; clear HD; have HN6 := hide N6; clear N6))
              go_roundw
              case rel => exact ⟨t + 1, a1, _, rfl, by go_num, ha, HIN.out, HMB.out, HN6.out⟩
              case measure => simp [intOf]; omega
            · have hp1 : (t : Int).tmod 2 = 1 := by rw [hp] at htm; exact htm.symm
              have HIN : Hid (2 * (N - (a1 + K)) + (t + 1) ≤ 32 + (t + 1) % 2) := by have := HAN.out; show _ ≤ _; omega
              clear hp htm hin
              go_wp2_with (first
                | (go_at_call 13; refine HL.out.mono ?_; rintro e w3 ⟨rfl, hw⟩; subst w3; clear HL)
                | (go_at_call 14; refine HT.out.mono ?_; rintro e w3 ⟨ao3, c3, rfl, T3, N3, -⟩; clear HT; have HT3 := hide T3; have HN3 := hide N3; clear T3; clear N3))
              go_loopw [12, 15] (fun o i wq => ∃ j : Nat, j ≤ K ∧ o = .int .i64 ((a1 + j : Nat) : Int) ∧ i = .int .i64 j ∧ wq = w3) (fun _ i _ => K - (intOf i).toNat)
              case atStart => exact ⟨0, by omega, rfl, rfl, rfl⟩
              case round =>
                obtain ⟨j, hj, rfl, rfl, hwq⟩ := hrel
                subst hwq
                by_cases hjK : j < K
                · have hjK' : (j : Int) < (K : Int) := by omega
                  have hjl : j < ((ms.take K).map It.bs).length := by rw [HTL.out]; exact hjK
                  obtain ⟨g, vx, rfl, c0, hSx⟩ := HT3.out.at j hjl
                  rw [tk_get a1 N j _ _ HMT.out hjl] at hSx
                  obtain ⟨b, off, c, rfl, c1⟩ := one_byte hSx
                  have haj : ((a1 + j : Nat) : Int) ≤ 16 := by have := HAN.out; omega
                  clear hSx hjl
                  go_wp2_with fail
                  go_roundw
                  case rel => exact ⟨j + 1, by omega, by go_num, by go_num, by trivial⟩
                  case measure => simp [intOf]; omega
                · have HJ : Hid (j = K) := by show _ = _; omega
                  have hjn : ¬ (j : Int) < (K : Int) := by omega
                  go_wp2_with fail
                  go_roundw
                  case rel => exact ⟨t + 1, a1 + j, ms.drop K, rfl, by go_num, by have := HJ.out; have := HAN.out; omega, by rw [HJ.out]; exact HIN.out, by rw [HJ.out]; exact HDD.out, HN3.out⟩
                  case measure => simp [intOf]; omega
set_option maxHeartbeats 8000000 in
set_option maxRecDepth 100000 in
theorem walkF (n size : Int) (w : World) (hn : -9223372036854775808 ≤ n ∧ n ≤ 9223372036854775807) (hs : -9223372036854775808 ≤ size ∧ size ≤ 9223372036854775807) :
    Calls Try.prog 5 #[.int .i64 n, .int .i64 size, .bool false] w fun e w' => e = .returned (.bool true) ∧ Below w.heap.size w w' := by
  have h1 := wiP_ge n 0 16 (by omega)
  have h2 := wiP_ge size 1 8 (by omega)
  have HW1 := hide (within_wi n 0 16 w (by omega) (by omega) (by omega))
  have HW2 := hide (within_wi size 1 8 w (by omega) (by omega) (by omega))
  obtain ⟨N, hN⟩ : ∃ N : Nat, (N : Int) = wiP n 0 16 := ⟨(wiP n 0 16).toNat, by omega⟩
  obtain ⟨S, hS⟩ : ∃ S : Nat, (S : Int) = wiP size 1 8 := ⟨(wiP size 1 8).toNat, by omega⟩
  rw [← hN] at h1 HW1
  rw [← hS] at h2 HW2
  have hN16 : N ≤ 16 := by omega
  have hS1 : 1 ≤ S := by omega
  have hS8 : S ≤ 8 := by omega
  clear hN hS h1 h2
  have HN := hide (nb_new 16 (S : Int) 5 w (by omega) (by omega) (by omega) (by omega) (by omega) (by omega))
  go_enter Try.func5, Try.ntmps5
  go_wp2_with (first
    | (go_at_call 11; refine HW1.out.mono ?_; rintro e w1 ⟨rfl, hw⟩; subst w1; clear HW1)
    | (go_at_call 11; refine HW2.out.mono ?_; rintro e w1 ⟨rfl, hw⟩; subst w1; clear HW2)
    | (go_at_call 8; refine HN.out.mono ?_; rintro e w1 ⟨p, rfl, N1⟩; clear HN; have HN1 := hide N1; clear N1))
  go_loopw [11] (fun i wr => ∃ k : Nat, k ≤ N ∧ i = .int .i64 k ∧ Nb w wr p ⟨16, S, 5, ordI k⟩) (fun i _ => N - (intOf i).toNat)
  case atStart => exact ⟨0, by omega, rfl, by simpa [ordI] using HN1.out⟩
  case round =>
    obtain ⟨k, hk, rfl, NK⟩ := hrel
    have HNK := hide NK
    clear NK HN1
    by_cases hlt : k < N
    · have hlt' : (k : Int) < (N : Int) := by omega
      have h8 : IntKind.u8.wrap (k : Int) = k := by simp [IntKind.wrap, IntKind.signed, IntKind.bits]; omega
      have HP := hide (nb_put (HNK.out.keptN ((Kp.refl [] wr).alloc (.cells #[.int .u8 (k : Int)] 5 (0, 0)))) k (by show ((ordI k).length : Int) < 16; rw [ordI_len]; omega) (lit_sl wr [(k : Int)] 1 (0, 0) rfl (by omega)) (fun b hb => by simp at hb; omega) (by simp) (by omega) (by omega) ⟨16, S, 5, ordI (k + 1)⟩ (by rw [ordI_succ]))
      go_wp2_with (go_at_call 12; refine HP.out.mono ?_; rintro e w2 ⟨rfl, N2, -⟩; clear HP; have HN2 := hide N2; clear N2)
      go_roundw
      case rel => exact ⟨k + 1, by omega, by go_num, HN2.out⟩
      case measure => simp [intOf]; omega
    · have hnlt : ¬ (k : Int) < (N : Int) := by omega
      have HR : Hid (Nb w wr p ⟨16, S, 5, ordI N⟩) := by have := HNK.out; rw [show k = N by omega] at this; exact this
      clear HNK
      go_wp2_with fail
      go_loopw [12, 13] (fun o i wt => ∃ (t a : Nat) (ms : List It), o = .int .i64 a ∧ i = .int .i64 t ∧ a ≤ N ∧ 2 * (N - a) + t ≤ 32 + t % 2 ∧ Hid (ms.map It.bs = ordL a N) ∧ Nb w wt p ⟨16, S, 5, ms⟩) (fun _ i _ => 40 - (intOf i).toNat)
      case atStart => exact ⟨0, 0, ordI N, rfl, rfl, by omega, by omega, ordI_bs N, HR.out⟩
      case round =>
        obtain ⟨t, a1, ms, rfl, rfl, ha, hin, HM, NT⟩ := hrel
        have HNT := hide NT
        clear NT HR
        have ht40 : t < 40 := by omega
        have ht40' : (t : Int) < 40 := by omega
        have hml : ms.length = N - a1 := by have := congrArg List.length HM.out; rw [List.length_map, ordL_len] at this; exact this
        by_cases hz : a1 = N
        · have HL := hide (nb_len HNT.out 0 (by rw [hml]; omega))
          have haN : ((a1 : Int) == (N : Int)) = true := by simp; omega
          clear hml hz
          go_wp2_with (first
            | (go_at_call 13; refine HL.out.mono ?_; rintro e w3 ⟨rfl, hw⟩; subst w3; clear HL)
            | (go_at_call 10; refine (bknown_any _).mono ?_; rintro e w5 ⟨rfl, k5⟩))
          go_ret
          exact ⟨rfl, (HNT.out.kp.trans k5).below (Nat.le_refl _) (by simp)⟩
        · obtain ⟨m, hm⟩ : ∃ m, m = ms.length := ⟨_, rfl⟩
          have hm0 : 0 < m := by omega
          have hm0' : (0 : Int) < (m : Int) := by omega
          obtain ⟨K, hK⟩ : ∃ K, K = min S m := ⟨_, rfl⟩
          have hK0 : 0 < K := by omega
          have hKz : ¬ (K : Int) = 0 := by omega
          have hKz' : ((K : Int) == 0) = false := by simpa using hKz
          have hKS : ¬ (K : Int) > (S : Int) := by omega
          have hKm : K ≤ m := by omega
          have hm16 : m ≤ 16 := by omega
          have hma : m = N - a1 := by rw [hm]; exact hml
          have HL := hide (nb_len HNT.out m hm)
          have HT := hide (nb_take HNT.out K (by rw [hK, hm]; show _ = min (S : Int).toNat ms.length; omega) ⟨16, S, 5, ms.drop K⟩ rfl)
          have HDL : Hid ((ms.drop K).length = m - K) := by show _ = _; rw [List.length_drop, ← hm]
          have HKS2 : Hid ((K : Int) < (S : Int) → m - K = 0) := fun hh => by omega
          have HMT : Hid ((ms.take K).map It.bs ++ (ms.drop K).map It.bs = ordL a1 N) := by show _ = _; rw [← List.map_append, List.take_append_drop]; exact HM.out
          have HTL : Hid (((ms.take K).map It.bs).length = K) := by show _ = _; rw [List.length_map, List.length_take, ← hm]; omega
          have HDD : Hid ((ms.drop K).map It.bs = ordL (a1 + K) N) := by show _ = _; rw [List.map_drop, HM.out, ordL_drop]
          have HAN : Hid (a1 + K ≤ N) := by show _ ≤ _; omega
          clear hm hK hml hma
          have hpp : t % 2 = 0 ∨ t % 2 = 1 := by omega
          have htm := Int.ofNat_tmod t 2
          by_cases hl : (K : Int) < (S : Int)
          · have hld : decide ((K : Int) < (S : Int)) = true := decide_eq_true hl
            have HIN : Hid (2 * (N - (a1 + K)) + (t + 1) ≤ 32 + (t + 1) % 2) := by have := HAN.out; show _ ≤ _; omega
            clear hpp htm hin
            go_wp2_with (first
              | (go_at_call 13; refine HL.out.mono ?_; rintro e w3 ⟨rfl, hw⟩; subst w3; clear HL)
              | (go_at_call 14; refine HT.out.mono ?_; rintro e w3 ⟨ao3, c3, rfl, T3, N3, -⟩; clear HT; have HT3 := hide T3; have HN3 := hide N3; clear T3; have HL2 := hide (nb_len N3 0 (by show 0 = (ms.drop K).length; rw [HDL.out, HKS2.out hl])); clear N3)
              | (go_at_call 13; refine HL2.out.mono ?_; rintro e w4 ⟨rfl, hw⟩; subst w4; clear HL2))
            go_loopw [12, 15] (fun o i wq => ∃ j : Nat, j ≤ K ∧ o = .int .i64 ((a1 + j : Nat) : Int) ∧ i = .int .i64 j ∧ wq = w3) (fun _ i _ => K - (intOf i).toNat)
            case atStart => exact ⟨0, by omega, rfl, rfl, rfl⟩
            case round =>
              obtain ⟨j, hj, rfl, rfl, hwq⟩ := hrel
              subst hwq
              by_cases hjK : j < K
              · have hjK' : (j : Int) < (K : Int) := by omega
                have hjl : j < ((ms.take K).map It.bs).length := by rw [HTL.out]; exact hjK
                obtain ⟨g, vx, rfl, c0, hSx⟩ := HT3.out.at j hjl
                rw [tk_get a1 N j _ _ HMT.out hjl] at hSx
                obtain ⟨b, off, c, rfl, c1⟩ := one_byte hSx
                have haj : ((a1 + j : Nat) : Int) ≤ 16 := by have := HAN.out; omega
                clear hSx hjl
                go_wp2_with fail
                go_roundw
                case rel => exact ⟨j + 1, by omega, by go_num, by go_num, by trivial⟩
                case measure => simp [intOf]; omega
              · have HJ : Hid (j = K) := by show _ = _; omega
                have hjn : ¬ (j : Int) < (K : Int) := by omega
                go_wp2_with fail
                go_roundw
                case rel => exact ⟨t + 1, a1 + j, ms.drop K, rfl, by go_num, by have := HJ.out; have := HAN.out; omega, by rw [HJ.out]; exact HIN.out, by rw [HJ.out]; exact HDD.out, HN3.out⟩
                case measure => simp [intOf]; omega
          · have hld : decide ((K : Int) < (S : Int)) = false := decide_eq_false hl
            have HIN : Hid (2 * (N - (a1 + K)) + (t + 1) ≤ 32 + (t + 1) % 2) := by have := HAN.out; show _ ≤ _; omega
            clear hpp htm hin
            go_wp2_with (first
              | (go_at_call 13; refine HL.out.mono ?_; rintro e w3 ⟨rfl, hw⟩; subst w3; clear HL)
              | (go_at_call 14; refine HT.out.mono ?_; rintro e w3 ⟨ao3, c3, rfl, T3, N3, -⟩; clear HT; have HT3 := hide T3; have HN3 := hide N3; clear T3; clear N3))
            go_loopw [12, 15] (fun o i wq => ∃ j : Nat, j ≤ K ∧ o = .int .i64 ((a1 + j : Nat) : Int) ∧ i = .int .i64 j ∧ wq = w3) (fun _ i _ => K - (intOf i).toNat)
            case atStart => exact ⟨0, by omega, rfl, rfl, rfl⟩
            case round =>
              obtain ⟨j, hj, rfl, rfl, hwq⟩ := hrel
              subst hwq
              by_cases hjK : j < K
              · have hjK' : (j : Int) < (K : Int) := by omega
                have hjl : j < ((ms.take K).map It.bs).length := by rw [HTL.out]; exact hjK
                obtain ⟨g, vx, rfl, c0, hSx⟩ := HT3.out.at j hjl
                rw [tk_get a1 N j _ _ HMT.out hjl] at hSx
                obtain ⟨b, off, c, rfl, c1⟩ := one_byte hSx
                have haj : ((a1 + j : Nat) : Int) ≤ 16 := by have := HAN.out; omega
                clear hSx hjl
                go_wp2_with fail
                go_roundw
                case rel => exact ⟨j + 1, by omega, by go_num, by go_num, by trivial⟩
                case measure => simp [intOf]; omega
              · have HJ : Hid (j = K) := by show _ = _; omega
                have hjn : ¬ (j : Int) < (K : Int) := by omega
                go_wp2_with fail
                go_roundw
                case rel => exact ⟨t + 1, a1 + j, ms.drop K, rfl, by go_num, by have := HJ.out; have := HAN.out; omega, by rw [HJ.out]; exact HIN.out, by rw [HJ.out]; exact HDD.out, HN3.out⟩
                case measure => simp [intOf]; omega
theorem walk (n size : Int) (back : Bool) (w : World) (hn : -9223372036854775808 ≤ n ∧ n ≤ 9223372036854775807) (hs : -9223372036854775808 ≤ size ∧ size ≤ 9223372036854775807) :
    Calls Try.prog 5 #[.int .i64 n, .int .i64 size, .bool back] w fun e w' => e = .returned (.bool true) ∧ Below w.heap.size w w' := by
  cases back
  · exact walkF n size w hn hs
  · exact walkT n size w hn hs
set_option maxRecDepth 100000 in
theorem lifted (os : Os) (started : os.Started) (H : Type) (enc : TypeId × Value → H) :
    ReturnsInHanded {} Try.checked os 5 .any (Rows.batchOrdersSpec.pre6 enc Try.prog Try.f5 Rows.batchOrdersRow.domain false) (Rows.batchOrdersSpec.post enc Try.prog Try.f5 false true false false) := by
  refine returnsInHanded_of_change (C := Try.checked) own started (by kernel_rfl) Try.func5
    (ChangeSpec.witness6 (enc := enc) (C := Try.checked) false ⟨#[], #[.int .i64 0, .int .i64 0, .bool false], []⟩ 8 (by kernel_rfl) (by kernel_rfl) (by kernel_rfl) (by kernel_rfl)) ?_
  intro W base args ds gs before hval0 hW hcnd _
  have hval : ∀ (j : Nat) t v, Try.f5.params[j]? = some t → args[j]? = some v → Value.okWide Try.prog W .any base t v := hval0
  have hW' := hW
  obtain ⟨p, q, hA0, hV, rfl, hfz, hnd⟩ := hW
  have hA : DataW.TrodAll enc Try.prog W 0 (fun _ => true) true Try.f5.params.toList args.toList ds p := hA0
  rw [Try.params5] at hA hval
  obtain ⟨v0, vs0, d0, ds0, p0, q0, hargs, rfl, rfl, h0, r0⟩ := trodAll_cons hA
  obtain ⟨v1, vs1, d1, ds1, p1, q1, rfl, rfl, rfl, h1, r1⟩ := trodAll_cons r0
  obtain ⟨v2, vs2, d2, ds2, p2, q2, rfl, rfl, rfl, h2, r2⟩ := trodAll_cons r1
  obtain ⟨rfl, rfl, rfl⟩ := trodAll_nil r2
  obtain rfl : args = #[v0, v1, v2] := by cases args; simp_all
  obtain ⟨rfl, rfl⟩ := trodVars_none hV
  obtain ⟨a0, rfl, rfl, rfl, w0⟩ := open_int Try.underlying3 (hval 0 3 v0 rfl rfl) h0
  obtain ⟨a1, rfl, rfl, rfl, w1⟩ := open_int Try.underlying3 (hval 1 3 v1 rfl rfl) h1
  obtain ⟨a2, rfl, rfl, rfl⟩ := open_bool Try.underlying4 (hval 2 4 v2 rfl rfl) h2
  clear hA0 hval0
  refine (walk a0 a1 a2 W (bounds_i64 w0) (bounds_i64 w1)).mono fun e W' ⟨he, bel⟩ => ?_
  subst he
  exact ⟨_, rfl, _, _, _, [], _, [], hW', trodAll_mk1 (shut_bool Try.underlying4 _), (trodAll_cons_mk (shut_int Try.underlying3 w0) (trodAll_cons_mk (shut_int Try.underlying3 w1) (trodAll_cons_mk (shut_bool Try.underlying4 a2) trodAll_mk0))), rfl, bel.frame _, fun h => by cases h⟩
theorem over : Rows.batchOrdersRow.holds Try.pinned (OpenSpec.ofChange Rows.batchOrdersSpec) :=
  OpenClaim.holds_of_wide 5 Try.f5 rfl rfl rfl rfl rfl rfl rfl ⟨rfl, rfl, rfl, rfl, rfl⟩ rfl rfl rfl rfl rfl (by kernel_rfl) Try.func5 (by kernel_rfl)
    (of_decide_eq_true (by kernel_rfl)) (by unfold Func.isWrapper; first | (rw [if_pos (by decide +kernel)]; kernel_rfl) | (rw [if_neg (by decide +kernel)]; exact ⟨rfl, rfl⟩))
    (fun os started H enc _ => lifted os started H enc)
end Go.Proofs.Ytfepkcjelecpkaa.batchOrders
namespace Go.Proofs.Ytfepkcjelecpkaa
/-- The given statement. -/
theorem BatchOrders_holds : Rows.BatchOrdersSaid := batchOrders.over
#print axioms BatchOrders_holds
end Go.Proofs.Ytfepkcjelecpkaa
