/-
  The statement LedgerPublishesCardSaid: for all lists of numbers the law function LedgerPublishes returns true and leaves its argument as it was; the table hash.roundWords starts as the program's text lays it (tied). No other condition.
-/
import Derived.SevenTiedAt
import Derived.Test.YtillhpgdlmeajaaGreatDoorCards
import Derived.Test.YtillhpgdlmeajaaGreatDoorTie
import Derived.Test.YtillhpgdlmeajaaGreatDoorQB1
import Derived.Test.YtillhpgdlmeajaaGreatDoorQB3
import Derived.Test.YtillhpgdlmeajaaGreatDoorQB2
import Derived.Test.YtillhpgdlmeajaaGreatDoorQLedgerPublishes1
import Derived.Test.YtillhpgdlmeajaaGreatDoorQB4
import Derived.Test.YtillhpgdlmeajaaGreatDoorQB5
import Derived.Test.YtillhpgdlmeajaaGreatDoorQB6
import Derived.Test.YtillhpgdlmeajaaGreatDoorQB7
namespace Go.Proofs.YtillhpgdlmeajaaGreatDoor.ledgerPublishes
open Go.ChangeShapes Go.WideShapes Go.ChangeAt Go.RowKit
open Go.Proofs.YtillhpgdlmeajaaGreatDoor
set_option linter.unusedVariables false
theorem one_new {l : List (List Int)} {k : Nat} (h : ∀ x ∈ l, ∃ j : Nat, j < k ∧ x = [(j : Int)]) : allU l [[(k : Int)]] = l ++ [[(k : Int)]] := by
  show insU l _ = _
  refine insU_new (fun hm => ?_)
  obtain ⟨j, hj, e⟩ := h _ hm
  simp at e
  omega
/-- how far it is. -/
def Inv (w : World) (l pd pk k : Nat) (la us : Int) (wr : World) : Prop := ∃ S f, ∃ u : Nat, Lg w wr l pd pk S f ∧ Up S (15 * k) k ∧ S.n = u ∧ us = u ∧ S.seed = seedX 1 ∧ (∀ x ∈ S.its, ∃ j : Nat, j < k ∧ x = [(j : Int)]) ∧ S.its.length ≤ k ∧ ((S.la = none ∧ la = -1 ∧ u = 0) ∨ ∃ a : Nat, S.la = some (a, u - 1) ∧ la = a ∧ 1 ≤ u)
set_option maxRecDepth 100000 in
set_option maxHeartbeats 16000000 in
theorem walk (v : Value) (xs : List Int) (w : World) (hG : Gl w) (hL : Ints w v xs) :
    Calls Tryz.prog 8 #[v] w fun e w' => e = .returned (.bool true) ∧ Below w.heap.size w w' := by
  have HG := hide hG
  obtain ⟨al, cl, rfl, hlm, hbd, hcell⟩ := hL
  obtain ⟨N, hN⟩ : ∃ N, N = xs.length := ⟨_, rfl⟩
  have HC : Hid (∀ i (h : i < N), ∃ a x, al = some a ∧ w.cell? (a.add i) = some (.int .i64 x)) := fun i hi => by
    obtain ⟨a, e, hc⟩ := hcell i (by omega)
    exact ⟨a, _, e, hc⟩
  rw [← hN] at hlm ⊢
  unfold maxLen at hlm
  have HF := hide (fresh_any w)
  clear hG hcell hbd hN
  go_enter Tryz.func8, Tryz.ntmps8
  go_wp2_with fail
  refine HF.out.mono ?_
  rintro ee w1 ⟨pd, rfl, N1⟩
  have HN1 := hide N1
  have HF2 := hide (fresh_any w1)
  clear HF N1
  go_wp2_with fail
  refine HF2.out.mono ?_
  rintro ee w2 ⟨pk, rfl, N2⟩
  have HN2 := hide N2
  have HSd := hide (xseed_any 1 w2)
  clear HF2 N2
  go_wp2_with fail
  refine HSd.out.mono ?_
  rintro ee w3 ⟨as_, ms, cs, rfl, R3, K3⟩
  have HO := hide (uopen_fresh HN1.out HN2.out K3 R3 (seedX_bs 1) (seedX_len 1))
  clear HSd R3 K3 HN1 HN2
  go_wp2_with fail
  refine HO.out.mono ?_
  rintro ee w4 ⟨l, rfl, f, L4⟩
  have HL4 := hide L4
  clear HO L4
  go_wp2_with fail
  go_loopw [5, 6, 7] (fun la us i wr => ∃ k : Nat, k ≤ N ∧ k ≤ 22 ∧ i = .int .i64 k ∧ ∃ la' us', la = .int .i64 la' ∧ us = .int .i64 us' ∧ Inv w l pd pk k la' us' wr) (fun _ _ i _ => N - (intOf i).toNat)
  case atStart => exact ⟨0, by omega, by omega, rfl, -1, 0, rfl, rfl, _, f, 0, HL4.out, up0 _, rfl, rfl, rfl, (fun x hx => by cases hx), Nat.le_refl _, .inl ⟨rfl, rfl, rfl⟩⟩
  case round =>
    obtain ⟨k, hkN, hk22, rfl, la, us, rfl, rfl, S0, f0, u, hLg, hU, hn, rfl, hsd, hit, hle, hla⟩ := hrel
    have HLg := hide hLg
    have HU := hide hU
    have HN0 := hide hn
    have HSd := hide hsd
    have HIt := hide hit
    have HLe := hide hle
    have hu16 := hLg.nk
    rw [hn] at hu16
    clear HL4 hLg hU hn hsd hit hle
    by_cases hlt : k < N ∧ k < 22
    · obtain ⟨hl1, hl2⟩ := hlt
      have hl1' : (k : Int) < (N : Int) := by omega
      have hl2' : (k : Int) < 22 := by omega
      have hd1 : decide ((k : Int) < (N : Int)) = true := decide_eq_true hl1'
      have hd2 : decide ((k : Int) < 22) = true := decide_eq_true hl2'
      obtain ⟨a0, x, rfl, hc⟩ := HC.out k hl1
      have hcx := HLg.out.kp.cell hc (by simp)
      clear hc
      by_cases hm : 0 < x.tmod 3
      · have hdm : decide (0 < x.tmod 3) = true := decide_eq_true hm
        have h8 : IntKind.u8.wrap (k : Int) = k := by simp [IntKind.wrap, IntKind.signed, IntKind.bits]; omega
        obtain ⟨wa, hwa⟩ : ∃ x, x = (wr.alloc (.cells #[.int .u8 (k : Int)] 5)) := ⟨_, rfl⟩
        obtain ⟨wb, hwb⟩ : ∃ x, x = wa.alloc (.cells #[.slice (some ⟨wr.heap.size, 0, none⟩) 1 1] 22) := ⟨_, rfl⟩
        have Ka : Kp [] wr wa := by rw [hwa]; exact (Kp.refl [] _).alloc _
        have Kb : Kp [] wa wb := by rw [hwb]; exact (Kp.refl [] _).alloc _
        have hBk : Bs [(k : Int)] := fun b hb => by simp at hb; omega
        have hSl : Sl wa (.slice (some ⟨wr.heap.size, 0, none⟩) 1 1) [(k : Int)] := by rw [hwa]; exact lit_sl wr [(k : Int)] 1 (0, 0) rfl (by omega)
        have hLs : Lists wb (.slice (some ⟨wa.heap.size, 0, none⟩) 1 1) [(.slice (some ⟨wr.heap.size, 0, none⟩) 1 1, [(k : Int)])] := by rw [hwb]; exact lists1 hSl hBk
        have hall := one_new HIt.out
        have HAd := hide (uadd_up (HLg.out.on (Ka.trans Kb)) (15 * k) k 1 HU.out (by omega) _ _ [[(k : Int)]] rfl hLs (by simp) (by omega) (by simp) (by rw [hall, List.length_append]; have := HLe.out; simp; omega) (by simp) (by simp; omega))
        rw [hwb, hwa] at HAd
        rw [show (wr.alloc (.cells #[.int .u8 (k : Int)] 5)).heap.size = wr.heap.size + 1 by simp] at HAd
        have HAll := hide hall
        clear hwa hwb Ka Kb hBk hSl hLs hall
        go_wp2_with fail
        refine HAd.out.mono ?_
        rintro ee w5 ⟨vr, rfl, -, S5, f5, L5, -, -, U5, hits5, hn5, hsd5, hla5⟩
        have HL5 := hide L5
        have HU5 : Hid (Up S5 (15 * (k + 1)) (k + 1)) := hide (by have := U5; rw [show 15 * k + (12 + [[(k : Int)]].length * (2 + 1)) = 15 * (k + 1) by simp; omega] at this; exact this)
        have HN5 : Hid (S5.n = u) := hide (by rw [hn5]; exact HN0.out)
        have HSd5 : Hid (S5.seed = seedX 1) := hide (by rw [hsd5]; exact HSd.out)
        have HIt5 : Hid (∀ x ∈ S5.its, ∃ j : Nat, j < k + 1 ∧ x = [(j : Int)]) := hide (by
          rw [hits5, HAll.out]
          intro y hy
          rcases List.mem_append.1 hy with hy | hy
          · obtain ⟨j, hj, e⟩ := HIt.out y hy; exact ⟨j, by omega, e⟩
          · exact ⟨k, by omega, by simpa using hy⟩)
        have hlen5 : S5.its.length = S0.its.length + 1 := by rw [hits5, HAll.out, List.length_append]; rfl
        have HLe5 : Hid (S5.its.length ≤ k + 1) := hide (by have := HLe.out; omega)
        have hsz0 : ∀ a b5, S0.la = some (a, b5) → a ≤ S0.its.length := fun a b5 e => by
          obtain ⟨j, s, q, vs, pv, hx⟩ := HLg.out
          have := hx.la
          rw [e] at this
          exact this.1
        have HNeL : Hid (∀ n, n = S5.its.length → ¬ (n : Int) = la) := hide (fun n hn e => by
          rcases hla with ⟨-, h, -⟩ | ⟨a, h1, h2, -⟩
          · omega
          · have := hsz0 _ _ h1; omega)
        have HNe : Hid (∀ a, S5.la = some a → a.1 ≠ S5.its.length) := hide (fun a ha e => by
          rw [hla5] at ha
          have := hsz0 a.1 a.2 ha
          omega)
        have hLa5 := hla5
        have HNlt' : Hid (u ≠ 16 → S5.n < 16) := hide (fun h => by rw [HN5.out]; omega)
        clear HAd L5 U5 hits5 hn5 hsd5 hlen5 HLg HU
        by_cases h16 : u = 16
        · have HN16 : Hid (S5.n = 16) := hide (by rw [HN5.out]; exact h16)
          obtain ⟨a, h1, rfl, -⟩ := hla.resolve_left (fun h => by omega)
          obtain ⟨b5, hb5⟩ : ∃ b, b = u - 1 := ⟨_, rfl⟩
          have HLa5 : Hid (S5.la = some (a, b5)) := hide (by rw [hLa5, h1, hb5])
          have HB5 : Hid (b5 = 15) := hide (by omega)
          subst h16
          clear hla hLa5 h1 hb5 hsz0
          have HP := hide (upub_full HL5.out HN16.out HNe.out)
          go_wp2_with fail
          refine HP.out.mono ?_
          rintro ee w6 ⟨rfl, K6⟩
          obtain ⟨il, hil⟩ : ∃ n, n = S5.its.length := ⟨_, rfl⟩
          have hilne : ¬ (il : Int) = (a : Int) := HNeL.out il hil
          have hilne' : ((il : Int) == (a : Int)) = false := by simpa using hilne
          have HL6 := hide (HL5.out.on K6)
          have G6 := heap_alloc_new w6 (.cells #[.int .i64 0, .slice none 0 0, .int .i64 0, .slice none 0 0, .slice none 0 0] 72)
          have HKa6 : Hid (Kp [] w6 (w6.alloc (.cells #[.int .i64 0, .slice none 0 0, .int .i64 0, .slice none 0 0, .slice none 0 0] 72))) := (Kp.refl [] _).alloc _
          have HIl : Hid ((il : Int) = (S5.its.length : Int)) := hide (by rw [hil])
          clear HP K6 HL5 hil
          go_wp2_with (refine wpList_store_flat rfl 72 (.tmp 10) (.tmp 57) rfl w6.heap.size 0 rfl _ _ [.int .i64 0, .slice none 0 0, .int .i64 0, .slice none 0 0, .slice none 0 0] G6 rfl (by simp) Tryz.sgdSize (by simp [Value.oneCell']) #[.int .i64 0, .slice none 0 0, .int .i64 0, .slice none 0 0, .slice none 0 0] rfl ?_; intro w7 G7 K7; refine Hid.out ?_)
          obtain ⟨gs, hgs⟩ : ∃ g, g = w6.heap.size := ⟨_, rfl⟩
          rw [← hgs] at G7 K7 ⊢
          have K67 : Kp [] w6 w7 := HKa6.out.then K7 (fun i hi => .inr (by simp at hi; omega))
          have HL7 := hide (HL6.out.on K67)
          have HG7 := hide G7
          have HZ := hide (usize_any HL7.out (il : Int) HIl.out)
          have HLs := hide (ulast_some HL7.out a b5 HLa5.out)
          clear G6 G7 K7 K67 HKa6 HL6 hgs
          refine hide ?_
          go_wp2_with fail
          refine HZ.out.mono ?_
          rintro ee w8 ⟨rfl, hw⟩
          subst w8
          clear HZ
          go_wp2_with fail
          refine HLs.out.mono ?_
          rintro ee w8 ⟨v8, rfl, A8, K8⟩
          obtain ⟨br, kr, dr, bp, kp, dp, bq', kq, dq, rfl, -, -⟩ := A8.v.shape
          have hsn : (sgU S5.seed S5.its (a, b5)).n = (a : Int) := rfl
          have hsi : (sgU S5.seed S5.its (a, b5)).i = (b5 : Int) := rfl
          rw [hsn, hsi]
          have HL8 := hide (HL7.out.on K8)
          have HG8 := hide (K8.heap HG7.out (by simp))
          have G8 := heap_alloc_new w8 (.cells #[.int .i64 0, .slice none 0 0, .int .i64 0, .slice none 0 0, .slice none 0 0] 72)
          have HKa8 : Hid (Kp [] w8 (w8.alloc (.cells #[.int .i64 0, .slice none 0 0, .int .i64 0, .slice none 0 0, .slice none 0 0] 72))) := (Kp.refl [] _).alloc _
          clear HLs A8 K8 hsn hsi HL7 HG7
          go_wp2_with (refine wpList_store_flat rfl 72 (.tmp 12) (.tmp 70) rfl w8.heap.size 0 rfl _ _ [.int .i64 (a : Int), .slice br kr dr, .int .i64 (b5 : Int), .slice bp kp dp, .slice bq' kq dq] G8 rfl (by simp) Tryz.sgdSize (by simp [Value.oneCell']) #[.int .i64 (a : Int), .slice br kr dr, .int .i64 (b5 : Int), .slice bp kp dp, .slice bq' kq dq] rfl ?_; intro w9 G9 K9; refine Hid.out ?_)
          obtain ⟨g9, hg9⟩ : ∃ g, g = w8.heap.size := ⟨_, rfl⟩
          rw [← hg9] at G9 K9 ⊢
          have K89 : Kp [] w8 w9 := HKa8.out.then K9 (fun i hi => .inr (by simp at hi; omega))
          have HL9 := hide (HL8.out.on K89)
          have G59 := K89.heap HG8.out (by simp)
          have x3 : w9.cell? ⟨gs, 3, none⟩ = some (.slice none 0 0) := by rw [cell_of_row w9 gs 3 _ _ _ G59]; rfl
          have y0 : w9.cell? ⟨g9, 0, none⟩ = some (.int .i64 (a : Int)) := by rw [cell_of_row w9 g9 0 _ _ _ G9]; rfl
          clear G8 G9 K9 K89 HKa8 HL8 HG8 hg9 G59
          refine hide ?_
          go_wp2_with fail
          go_roundw
          case rel =>
            exact ⟨k + 1, by omega, by omega, by go_num, (a : Int), 16, rfl, rfl, S5, f5, 16, HL9.out, HU5.out, HN16.out, rfl, HSd5.out, HIt5.out, HLe5.out, .inr ⟨a, HLa5.out.trans (by rw [HB5.out]), rfl, by omega⟩⟩
          case measure => simp [intOf]; omega
        · have HNlt := hide (HNlt'.out h16)
          clear hla hLa5 hsz0 HNlt'
          have HP := hide (upub_up HL5.out HG.out _ _ HU5.out HNlt.out HNe.out)
          go_wp2_with fail
          refine HP.out.mono ?_
          rintro ee w6 ⟨v6, rfl, S6, f6, L6, T6, U6, hits6, hn6, hsd6, hla6, b6, -, -, -, A6⟩
          obtain ⟨br, kr, dr, bp, kp, dp, bq', kq, dq, rfl, -, -⟩ := A6.v.shape
          obtain ⟨il, hil⟩ : ∃ n, n = S5.its.length := ⟨_, rfl⟩
          obtain ⟨ui, hui⟩ : ∃ n, n = S5.n := ⟨_, rfl⟩
          obtain ⟨sg, hsg⟩ : ∃ x, x = sgU S5.seed S5.its (S5.its.length, S5.n) := ⟨_, rfl⟩
          have hV6 := A6.v
          rw [← hsg] at hV6
          have hsn : sg.n = (il : Int) := by rw [hsg, hil]; rfl
          have hsi : sg.i = (ui : Int) := by rw [hsg, hui]; rfl
          rw [← hsg, hsn, hsi] at ⊢
          rw [hsn, hsi] at hV6
          have HV6 := hide hV6
          have HSG : Hid (sg = sgU S6.seed S6.its (il, ui)) := hide (by rw [hsg, hsd6, hits6, hil, hui])
          have HIl : Hid ((il : Int) = (S6.its.length : Int)) := hide (by rw [hil, hits6])
          have HUi : Hid (ui < 16) := hide (by rw [hui]; exact HNlt.out)
          have HN6 : Hid (S6.n = ui + 1) := hide (by rw [hn6, hui])
          have HSd6 : Hid (S6.seed = seedX 1) := hide (by rw [hsd6]; exact HSd5.out)
          have HIt6 : Hid (∀ x ∈ S6.its, ∃ j : Nat, j < k + 1 ∧ x = [(j : Int)]) := hide (by rw [hits6]; exact HIt5.out)
          have HLe6 : Hid (S6.its.length ≤ k + 1) := hide (by rw [hits6]; exact HLe5.out)
          have HLa6 : Hid (S6.la = some (il, ui)) := hide (by rw [hla6, hil, hui])
          have HU6 := hide U6
          have HL6 := hide L6
          have G6 := heap_alloc_new w6 (.cells #[.int .i64 0, .slice none 0 0, .int .i64 0, .slice none 0 0, .slice none 0 0] 72)
          have HKa6 : Hid (Kp [] w6 (w6.alloc (.cells #[.int .i64 0, .slice none 0 0, .int .i64 0, .slice none 0 0, .slice none 0 0] 72))) := (Kp.refl [] _).alloc _
          have hunew : (ui : Int) = u := by rw [hui]; exact congrArg (Nat.cast) HN5.out
          have hu16 : ¬ (u : Int) = 16 := by have := HUi.out; omega
          have hu16' : ((u : Int) == 16) = false := by simpa using hu16
          have hilne : ¬ (il : Int) = la := HNeL.out il hil
          have hilne' : ((il : Int) == la) = false := by simpa using hilne
          have hwu : IntKind.i64.wrap ((u : Int) + 1) = (u : Int) + 1 := by have := HUi.out; simp [IntKind.wrap, IntKind.signed, IntKind.bits]; omega
          have HUn := hide hunew
          clear HP T6 U6 hits6 hn6 hsd6 hla6 A6 hV6 hsg hsn hsi L6 hil hui HL5 hunew
          go_wp2_with (refine wpList_store_flat rfl 72 (.tmp 10) (.tmp 57) rfl w6.heap.size 0 rfl _ _ [.int .i64 (il : Int), .slice br kr dr, .int .i64 (ui : Int), .slice bp kp dp, .slice bq' kq dq] G6 rfl (by simp) Tryz.sgdSize (by simp [Value.oneCell']) #[.int .i64 (il : Int), .slice br kr dr, .int .i64 (ui : Int), .slice bp kp dp, .slice bq' kq dq] rfl ?_; intro w7 G7 K7; refine Hid.out ?_)
          obtain ⟨gs, hgs⟩ : ∃ g, g = w6.heap.size := ⟨_, rfl⟩
          rw [← hgs] at G7 K7 ⊢
          have K67 : Kp [] w6 w7 := HKa6.out.then K7 (fun i hi => .inr (by simp at hi; omega))
          have HL7 := hide (HL6.out.on K67)
          have HV7 := hide (HV6.out.kept K67)
          have HG7 := hide G7
          have HZ := hide (usize_any HL7.out (il : Int) HIl.out)
          clear G6 G7 K7 K67 HKa6 HV6 HL6 hgs
          refine hide ?_
          go_wp2_with fail
          refine HZ.out.mono ?_
          rintro ee w8 ⟨rfl, hw⟩
          subst w8
          go_wp2_with fail
          refine HZ.out.mono ?_
          rintro ee w8 ⟨rfl, hw⟩
          subst w8
          go_wp2_with fail
          refine HZ.out.mono ?_
          rintro ee w8 ⟨rfl, hw⟩
          subst w8
          clear HZ
          rw [← HUn.out]
          have HD7 : Hid (∀ w', Kp [] w7.drew w' → Kp [] w7 w') := fun w' k' => (kp_drew w7).trans k'
          have HGs : Hid (∀ w', Kp [] w7.drew w' → w'.heap[gs]? = some (.cells #[.int .i64 (il : Int), .slice br kr dr, .int .i64 (ui : Int), .slice bp kp dp, .slice bq' kq dq] 72 (0, 0))) := fun w' k' => (HD7.out w' k').heap HG7.out (by simp)
          have HLw : Hid (∀ w', Kp [] w7.drew w' → Lg w w' l pd pk S6 f6) := fun w' k' => HL7.out.on (HD7.out w' k')
          have HVw : Hid (∀ w', Kp [] w7.drew w' → SgV w' (.agg #[.int .i64 (il : Int), .slice br kr dr, .int .i64 (ui : Int), .slice bp kp dp, .slice bq' kq dq]) sg) := fun w' k' => HV7.out.kept (HD7.out w' k')
          have HGw : Hid (∀ w', Kp [] w7.drew w' → Gl w') := fun w' k' => HG.out.kept (HL7.out.kp.trans (HD7.out w' k')) (by simp)
          obtain ⟨P, hP⟩ : ∃ P, P = topP S6.seed := ⟨_, rfl⟩
          have HPe := hide hP
          have HPb : Hid (Bs P) := hide (by rw [hP]; exact (topP_ok _).2)
          have HVe : Hid (true = sg.ver P) := hide (by
            rw [HSG.out, hP]
            unfold sgU
            have h1 := HIl.out
            have h2 := HL7.out.few
            exact (sgnC_ver S6.seed ui HUi.out _ _ (by rw [rgtC_iff, rtU_len]; exact ⟨⟨by omega, by omega⟩, rfl⟩)).symm)
          have HSi : Hid (-9223372036854775808 ≤ sg.i ∧ sg.i ≤ 9223372036854775807) := hide (by
            have : sg.i = (ui : Int) := by rw [HSG.out]; rfl
            have := HUi.out
            omega)
          obtain ⟨us, hus⟩ : ∃ u : Int, u = (ui : Int) + 1 := ⟨_, rfl⟩
          obtain ⟨kl, hkl⟩ : ∃ k : Int, k = 16 - us := ⟨_, rfl⟩
          have HSub : Hid (IntKind.i64.wrap (us - 1) = (ui : Int)) := hide (by have := HUi.out; simp [IntKind.wrap, IntKind.signed, IntKind.bits]; omega)
          have HKl : Hid (IntKind.i64.wrap (16 - us) = kl) := hide (by have := HUi.out; simp [IntKind.wrap, IntKind.signed, IntKind.bits]; omega)
          have HKl2 : Hid (kl = 16 - (S6.n : Int)) := hide (by rw [hkl, hus, HN6.out]; omega)
          rw [← hus]
          have HUs := hide hus
          clear hP hus hkl
          go_wp2_with fail
          refine region_grow Tryz.mixed [Is (.int .i64 0), Is (.bool false), Is (.bool false), Is (.pointer (some ⟨gs, 0, none⟩)), Is (.pointer (some ⟨gs, 0, none⟩)), Is (.int .i64 (il : Int)), Is (.pointer (some ⟨l, 0, none⟩)), Is (.int .i64 (il : Int)), Is (.bool false), Is (.bool false), Is (.bool false), Is (.pointer (some ⟨gs, 2, none⟩)), Is (.pointer (some ⟨gs, 2, none⟩)), Is (.int .i64 (ui : Int)), Is (.int .i64 us), Is (.int .i64 (ui : Int)), Is (.bool false), Is (.bool false), Is (.bool false), Is (.pointer (some ⟨l, 0, none⟩)), Is (.int .i64 kl), Is (.int .i64 us), Is (.int .i64 kl), Is (.bool false), Is (.bool false), Is (.bool false), Is (.pointer (some ⟨l, 0, none⟩)), SlT (P), Is (.agg #[.int .i64 (il : Int), .slice br kr dr, .int .i64 (ui : Int), .slice bp kp dp, .slice bq' kq dq]), Is (.bool true), Is (.bool false), Is (.bool false)] [[(11, none)], [(100, some 0)], [(101, some 1)], [(10, none), (102, some 2)], [(103, some 3), (102, some 2)], [(104, some 4), (102, some 2)], [(3, none), (102, some 2)], [(106, some 6), (102, some 2)], [(105, some 5), (107, some 7), (102, some 2)], [(102, some 2), (108, some 8)], [(109, some 9)], [(10, none), (110, some 10)], [(111, some 11), (110, some 10)], [(112, some 12), (110, some 10)], [(6, none), (110, some 10)], [(114, some 14), (110, some 10)], [(113, some 13), (115, some 15), (110, some 10)], [(110, some 10), (116, some 16)], [(117, some 17)], [(3, none), (118, some 18)], [(119, some 19), (118, some 18)], [(6, none), (118, some 18)], [(121, some 21), (118, some 18)], [(120, some 20), (122, some 22), (118, some 18)], [(118, some 18), (123, some 23)], [(124, some 24)], [(3, none), (125, some 25)], [(126, some 26), (125, some 25)], [(10, none), (125, some 25)], [(127, some 27), (128, some 28), (125, some 25)], [(129, some 29), (125, some 25)], [(125, some 25), (130, some 30)]] (by kernel_rfl) ?_ ?_ ?_
          · simp only [List.mem_cons, List.not_mem_nil, or_false]
            intro R hR
            rcases hR with rfl | rfl | rfl | rfl | rfl | rfl | rfl | rfl | rfl | rfl | rfl | rfl | rfl | rfl | rfl | rfl | rfl | rfl | rfl | rfl | rfl | rfl | rfl | rfl | rfl | rfl | rfl | rfl | rfl | rfl | rfl | rfl <;> first | exact stable_is _ | exact stable_sl _
          · refine steps_cons (fun a w hk hn => ?_) ?_
            · have h11 : a.eval (.tmp 11) = .int .i64 0 := hn.1
              clear hn
              refine wants_plain rfl ?_
              exact grown_move (.tmp 11) rfl h11
            refine steps_cons (fun a w hk hn => ?_) ?_
            · have h100 : a.eval (.tmp 100) = .int .i64 0 := hn.1
              clear hn
              refine wants_plain rfl ?_
              refine grown_run (v := .bool false) ?_ (Kp.refl _ _) rfl
              obtain ⟨ρ, hρ, hc, hf, hg⟩ := eval_is a
              rw [hρ] at h100 ⊢
              simp [go_sem, hc, h100]
            refine steps_cons (fun a w hk hn => ?_) ?_
            · have h101 : a.eval (.tmp 101) = .bool false := hn.1
              clear hn
              refine wants_plain rfl ?_
              exact grown_move (.tmp 101) rfl h101
            refine steps_cons (fun a w hk hn => ?_) ?_
            · have h10 : a.eval (.tmp 10) = .pointer (some ⟨gs, 0, none⟩) := hn.1
              have h102 : a.eval (.tmp 102) = .bool false := hn.2.1
              clear hn
              refine wants_guard (d := 102) rfl rfl h102 ?_
              refine grown_run (v := .pointer (some ⟨gs, 0, none⟩)) ?_ (Kp.refl _ _) rfl
              obtain ⟨ρ, hρ, hc, hf, hg⟩ := eval_is a
              rw [hρ] at h10 ⊢
              simp [go_sem, h10]
            refine steps_cons (fun a w hk hn => ?_) ?_
            · have h103 : a.eval (.tmp 103) = .pointer (some ⟨gs, 0, none⟩) := hn.1
              have h102 : a.eval (.tmp 102) = .bool false := hn.2.1
              clear hn
              refine wants_guard (d := 102) rfl rfl h102 ?_
              refine grown_run (v := .pointer (some ⟨gs, 0, none⟩)) ?_ (Kp.refl _ _) rfl
              obtain ⟨ρ, hρ, hc, hf, hg⟩ := eval_is a
              rw [hρ] at h103 ⊢
              simp [go_sem, h103]
            refine steps_cons (fun a w hk hn => ?_) ?_
            · have h104 : a.eval (.tmp 104) = .pointer (some ⟨gs, 0, none⟩) := hn.1
              have h102 : a.eval (.tmp 102) = .bool false := hn.2.1
              clear hn
              refine wants_guard (d := 102) rfl rfl h102 ?_
              refine grown_run (v := .int .i64 (il : Int)) ?_ (Kp.refl _ _) rfl
              have hcell : w.cell? ⟨gs, 0, none⟩ = some (.int .i64 (il : Int)) := by rw [cell_of_row w gs 0 _ _ _ (HGs.out w hk)]; rfl
              obtain ⟨ρ, hρ, hc, hf, hg⟩ := eval_is a
              rw [hρ] at h104 ⊢
              simp [go_sem, h104, hcell]
            refine steps_cons (fun a w hk hn => ?_) ?_
            · have h3 : a.eval (.tmp 3) = .pointer (some ⟨l, 0, none⟩) := hn.1
              have h102 : a.eval (.tmp 102) = .bool false := hn.2.1
              clear hn
              refine wants_guard (d := 102) rfl rfl h102 ?_
              exact grown_move (.tmp 3) rfl h3
            refine steps_cons (fun a w hk hn => ?_) ?_
            · have h106 : a.eval (.tmp 106) = .pointer (some ⟨l, 0, none⟩) := hn.1
              have h102 : a.eval (.tmp 102) = .bool false := hn.2.1
              clear hn
              refine wants_guard (d := 102) rfl rfl h102 ?_
              refine grown_call (f := 16) rfl Tryz.func16 (by kernel_rfl) (by kernel_rfl) ?_
              simp only [List.map_toArray, List.map_cons, List.map_nil, h106]
              refine (usize_any (HLw.out w hk) (il : Int) HIl.out).mono ?_
              rintro e w' ⟨rfl, rfl⟩
              exact ⟨_, rfl, Kp.refl _ _, rfl⟩
            refine steps_cons (fun a w hk hn => ?_) ?_
            · have h105 : a.eval (.tmp 105) = .int .i64 (il : Int) := hn.1
              have h107 : a.eval (.tmp 107) = .int .i64 (il : Int) := hn.2.1
              have h102 : a.eval (.tmp 102) = .bool false := hn.2.2.1
              clear hn
              refine wants_guard (d := 102) rfl rfl h102 ?_
              refine grown_run (v := .bool false) ?_ (Kp.refl _ _) rfl
              obtain ⟨ρ, hρ, hc, hf, hg⟩ := eval_is a
              rw [hρ] at h105 h107 ⊢
              simp [go_sem, h105, h107]
            refine steps_cons (fun a w hk hn => ?_) ?_
            · have h102 : a.eval (.tmp 102) = .bool false := hn.1
              have h108 : a.eval (.tmp 108) = .bool false := hn.2.1
              clear hn
              refine wants_plain rfl ?_
              exact grown_pick _ _ _ false rfl h102 h108
            refine steps_cons (fun a w hk hn => ?_) ?_
            · have h109 : a.eval (.tmp 109) = .bool false := hn.1
              clear hn
              refine wants_plain rfl ?_
              exact grown_move (.tmp 109) rfl h109
            refine steps_cons (fun a w hk hn => ?_) ?_
            · have h10 : a.eval (.tmp 10) = .pointer (some ⟨gs, 0, none⟩) := hn.1
              have h110 : a.eval (.tmp 110) = .bool false := hn.2.1
              clear hn
              refine wants_guard (d := 110) rfl rfl h110 ?_
              refine grown_run (v := .pointer (some ⟨gs, 2, none⟩)) ?_ (Kp.refl _ _) rfl
              obtain ⟨ρ, hρ, hc, hf, hg⟩ := eval_is a
              rw [hρ] at h10 ⊢
              simp [go_sem, h10]
            refine steps_cons (fun a w hk hn => ?_) ?_
            · have h111 : a.eval (.tmp 111) = .pointer (some ⟨gs, 2, none⟩) := hn.1
              have h110 : a.eval (.tmp 110) = .bool false := hn.2.1
              clear hn
              refine wants_guard (d := 110) rfl rfl h110 ?_
              refine grown_run (v := .pointer (some ⟨gs, 2, none⟩)) ?_ (Kp.refl _ _) rfl
              obtain ⟨ρ, hρ, hc, hf, hg⟩ := eval_is a
              rw [hρ] at h111 ⊢
              simp [go_sem, h111]
            refine steps_cons (fun a w hk hn => ?_) ?_
            · have h112 : a.eval (.tmp 112) = .pointer (some ⟨gs, 2, none⟩) := hn.1
              have h110 : a.eval (.tmp 110) = .bool false := hn.2.1
              clear hn
              refine wants_guard (d := 110) rfl rfl h110 ?_
              refine grown_run (v := .int .i64 (ui : Int)) ?_ (Kp.refl _ _) rfl
              have hcell : w.cell? ⟨gs, 2, none⟩ = some (.int .i64 (ui : Int)) := by rw [cell_of_row w gs 2 _ _ _ (HGs.out w hk)]; rfl
              obtain ⟨ρ, hρ, hc, hf, hg⟩ := eval_is a
              rw [hρ] at h112 ⊢
              simp [go_sem, h112, hcell]
            refine steps_cons (fun a w hk hn => ?_) ?_
            · have h6 : a.eval (.tmp 6) = .int .i64 us := hn.1
              have h110 : a.eval (.tmp 110) = .bool false := hn.2.1
              clear hn
              refine wants_guard (d := 110) rfl rfl h110 ?_
              exact grown_move (.tmp 6) rfl h6
            refine steps_cons (fun a w hk hn => ?_) ?_
            · have h114 : a.eval (.tmp 114) = .int .i64 us := hn.1
              have h110 : a.eval (.tmp 110) = .bool false := hn.2.1
              clear hn
              refine wants_guard (d := 110) rfl rfl h110 ?_
              refine grown_run (v := .int .i64 (ui : Int)) ?_ (Kp.refl _ _) rfl
              obtain ⟨ρ, hρ, hc, hf, hg⟩ := eval_is a
              rw [hρ] at h114 ⊢
              simp [go_sem, hc, h114, HSub.out]
            refine steps_cons (fun a w hk hn => ?_) ?_
            · have h113 : a.eval (.tmp 113) = .int .i64 (ui : Int) := hn.1
              have h115 : a.eval (.tmp 115) = .int .i64 (ui : Int) := hn.2.1
              have h110 : a.eval (.tmp 110) = .bool false := hn.2.2.1
              clear hn
              refine wants_guard (d := 110) rfl rfl h110 ?_
              refine grown_run (v := .bool false) ?_ (Kp.refl _ _) rfl
              obtain ⟨ρ, hρ, hc, hf, hg⟩ := eval_is a
              rw [hρ] at h113 h115 ⊢
              simp [go_sem, h113, h115]
            refine steps_cons (fun a w hk hn => ?_) ?_
            · have h110 : a.eval (.tmp 110) = .bool false := hn.1
              have h116 : a.eval (.tmp 116) = .bool false := hn.2.1
              clear hn
              refine wants_plain rfl ?_
              exact grown_pick _ _ _ false rfl h110 h116
            refine steps_cons (fun a w hk hn => ?_) ?_
            · have h117 : a.eval (.tmp 117) = .bool false := hn.1
              clear hn
              refine wants_plain rfl ?_
              exact grown_move (.tmp 117) rfl h117
            refine steps_cons (fun a w hk hn => ?_) ?_
            · have h3 : a.eval (.tmp 3) = .pointer (some ⟨l, 0, none⟩) := hn.1
              have h118 : a.eval (.tmp 118) = .bool false := hn.2.1
              clear hn
              refine wants_guard (d := 118) rfl rfl h118 ?_
              exact grown_move (.tmp 3) rfl h3
            refine steps_cons (fun a w hk hn => ?_) ?_
            · have h119 : a.eval (.tmp 119) = .pointer (some ⟨l, 0, none⟩) := hn.1
              have h118 : a.eval (.tmp 118) = .bool false := hn.2.1
              clear hn
              refine wants_guard (d := 118) rfl rfl h118 ?_
              refine grown_call (f := 35) rfl Tryz.func35 (by kernel_rfl) (by kernel_rfl) ?_
              simp only [List.map_toArray, List.map_cons, List.map_nil, h119]
              refine (ukeys_any (HLw.out w hk) kl HKl2.out).mono ?_
              rintro e w' ⟨rfl, rfl⟩
              exact ⟨_, rfl, Kp.refl _ _, rfl⟩
            refine steps_cons (fun a w hk hn => ?_) ?_
            · have h6 : a.eval (.tmp 6) = .int .i64 us := hn.1
              have h118 : a.eval (.tmp 118) = .bool false := hn.2.1
              clear hn
              refine wants_guard (d := 118) rfl rfl h118 ?_
              exact grown_move (.tmp 6) rfl h6
            refine steps_cons (fun a w hk hn => ?_) ?_
            · have h121 : a.eval (.tmp 121) = .int .i64 us := hn.1
              have h118 : a.eval (.tmp 118) = .bool false := hn.2.1
              clear hn
              refine wants_guard (d := 118) rfl rfl h118 ?_
              refine grown_run (v := .int .i64 kl) ?_ (Kp.refl _ _) rfl
              obtain ⟨ρ, hρ, hc, hf, hg⟩ := eval_is a
              rw [hρ] at h121 ⊢
              simp [go_sem, hc, h121, HKl.out]
            refine steps_cons (fun a w hk hn => ?_) ?_
            · have h120 : a.eval (.tmp 120) = .int .i64 kl := hn.1
              have h122 : a.eval (.tmp 122) = .int .i64 kl := hn.2.1
              have h118 : a.eval (.tmp 118) = .bool false := hn.2.2.1
              clear hn
              refine wants_guard (d := 118) rfl rfl h118 ?_
              refine grown_run (v := .bool false) ?_ (Kp.refl _ _) rfl
              obtain ⟨ρ, hρ, hc, hf, hg⟩ := eval_is a
              rw [hρ] at h120 h122 ⊢
              simp [go_sem, h120, h122]
            refine steps_cons (fun a w hk hn => ?_) ?_
            · have h118 : a.eval (.tmp 118) = .bool false := hn.1
              have h123 : a.eval (.tmp 123) = .bool false := hn.2.1
              clear hn
              refine wants_plain rfl ?_
              exact grown_pick _ _ _ false rfl h118 h123
            refine steps_cons (fun a w hk hn => ?_) ?_
            · have h124 : a.eval (.tmp 124) = .bool false := hn.1
              clear hn
              refine wants_plain rfl ?_
              exact grown_move (.tmp 124) rfl h124
            refine steps_cons (fun a w hk hn => ?_) ?_
            · have h3 : a.eval (.tmp 3) = .pointer (some ⟨l, 0, none⟩) := hn.1
              have h125 : a.eval (.tmp 125) = .bool false := hn.2.1
              clear hn
              refine wants_guard (d := 125) rfl rfl h125 ?_
              exact grown_move (.tmp 3) rfl h3
            refine steps_cons (fun a w hk hn => ?_) ?_
            · have h126 : a.eval (.tmp 126) = .pointer (some ⟨l, 0, none⟩) := hn.1
              have h125 : a.eval (.tmp 125) = .bool false := hn.2.1
              clear hn
              refine wants_guard (d := 125) rfl rfl h125 ?_
              refine grown_call (f := 39) rfl Tryz.func39 (by kernel_rfl) (by kernel_rfl) ?_
              simp only [List.map_toArray, List.map_cons, List.map_nil, h126]
              refine (upublic_any (HLw.out w hk) P HPe.out (HGw.out w hk)).mono ?_
              rintro e w' ⟨ao, m, c, rfl, R, K⟩
              exact ⟨_, rfl, K, R⟩
            refine steps_cons (fun a w hk hn => ?_) ?_
            · have h10 : a.eval (.tmp 10) = .pointer (some ⟨gs, 0, none⟩) := hn.1
              have h125 : a.eval (.tmp 125) = .bool false := hn.2.1
              clear hn
              refine wants_guard (d := 125) rfl rfl h125 ?_
              exact grown_loadf 72 (.tmp 10) rfl gs 0 h10 _ _ _ _ (HGs.out w hk) [.int .i64 (il : Int), .slice br kr dr, .int .i64 (ui : Int), .slice bp kp dp, .slice bq' kq dq] (flat_in rfl) Tryz.underlying72 rfl Tryz.sgdSize rfl
            refine steps_cons (fun a w hk hn => ?_) ?_
            · have h127 : Sl w (a.eval (.tmp 127)) (P) := hn.1
              have h128 : a.eval (.tmp 128) = .agg #[.int .i64 (il : Int), .slice br kr dr, .int .i64 (ui : Int), .slice bp kp dp, .slice bq' kq dq] := hn.2.1
              have h125 : a.eval (.tmp 125) = .bool false := hn.2.2.1
              clear hn
              refine wants_guard (d := 125) rfl rfl h125 ?_
              refine grown_call (f := 38) rfl Tryz.func38 (by kernel_rfl) (by kernel_rfl) ?_
              simp only [List.map_toArray, List.map_cons, List.map_nil, h128]
              refine (rckverify_any _ P _ sg true HVe.out w h127 HPb.out (HVw.out w hk) HSi.out).mono ?_
              rintro e w' ⟨rfl, K⟩
              exact ⟨_, rfl, K, rfl⟩
            refine steps_cons (fun a w hk hn => ?_) ?_
            · have h129 : a.eval (.tmp 129) = .bool true := hn.1
              have h125 : a.eval (.tmp 125) = .bool false := hn.2.1
              clear hn
              refine wants_guard (d := 125) rfl rfl h125 ?_
              refine grown_run (v := .bool false) ?_ (Kp.refl _ _) rfl
              obtain ⟨ρ, hρ, hc, hf, hg⟩ := eval_is a
              rw [hρ] at h129 ⊢
              simp [go_sem, h129]
            refine steps_cons (fun a w hk hn => ?_) ?_
            · have h125 : a.eval (.tmp 125) = .bool false := hn.1
              have h130 : a.eval (.tmp 130) = .bool false := hn.2.1
              clear hn
              refine wants_plain rfl ?_
              exact grown_pick _ _ _ false rfl h125 h130
            exact trivial
          intro W1 hkW1
          rintro _ rfl
          rintro _ rfl
          rintro _ rfl
          rintro _ rfl
          rintro _ rfl
          rintro _ rfl
          rintro _ rfl
          rintro _ rfl
          rintro _ rfl
          rintro _ rfl
          rintro _ rfl
          rintro _ rfl
          rintro _ rfl
          rintro _ rfl
          rintro _ rfl
          rintro _ rfl
          rintro _ rfl
          rintro _ rfl
          rintro _ rfl
          rintro _ rfl
          rintro _ rfl
          rintro _ rfl
          rintro _ rfl
          rintro _ rfl
          rintro _ rfl
          rintro _ rfl
          rintro _ rfl
          intro v127 h127
          rintro _ rfl
          rintro _ rfl
          rintro _ rfl
          rintro _ rfl
          refine fin_nil ?_
          simp only [Act.put, List.set_cons_zero, List.set_cons_succ, List.setIfInBounds_toArray]
          have K71 := HD7.out W1 hkW1
          have HL8 := hide (HL7.out.on K71)
          clear hkW1 K71 h127
          go_wp2_with fail
          go_roundw
          case rel =>
            refine ⟨k + 1, by omega, by omega, by go_num, (il : Int), us, rfl, rfl, S6, f6, ui + 1, HL8.out, HU6.out, HN6.out, by rw [HUs.out]; omega, HSd6.out, HIt6.out, HLe6.out, .inr ⟨il, by rw [HLa6.out]; rfl, rfl, by omega⟩⟩
          case measure => simp [intOf]; omega
      · have hdm : decide (0 < x.tmod 3) = false := decide_eq_false hm
        obtain ⟨S5, hS5⟩ : ∃ x, x = S0 := ⟨_, rfl⟩
        obtain ⟨f5, hf5⟩ : ∃ x, x = f0 := ⟨_, rfl⟩
        rw [← hS5] at HLg HU HN0 HSd HIt HLe hla
        rw [← hf5] at HLg
        have HL5 := hide HLg.out
        have HU5 : Hid (Up S5 (15 * (k + 1)) (k + 1)) := hide (by
          obtain ⟨⟨b, e1, e2⟩, e3, e4, e5⟩ := HU.out
          exact ⟨⟨b, e1, by omega⟩, e3, by omega, e5⟩)
        have HN5 := hide HN0.out
        have HSd5 := hide HSd.out
        have HIt5 : Hid (∀ x ∈ S5.its, ∃ j : Nat, j < k + 1 ∧ x = [(j : Int)]) := hide (fun y hy => by obtain ⟨j, hj, e⟩ := HIt.out y hy; exact ⟨j, by omega, e⟩)
        have HLe5 : Hid (S5.its.length ≤ k + 1) := hide (by have := HLe.out; omega)
        clear hS5 hf5 HLg HU HN0 HSd HIt HLe
        rcases hla with ⟨hla5, rfl, hu0⟩ | ⟨a, hla5, rfl, hu1⟩
        · have HNlt : Hid (S5.n < 16) := hide (by rw [HN5.out]; omega)
          have HNe : Hid (∀ a, S5.la = some a → a.1 ≠ S5.its.length) := hide (fun a ha e => by rw [hla5] at ha; cases ha)
          have HNeL : Hid (∀ n, n = S5.its.length → ¬ (n : Int) = -1) := hide (fun n hn e => by omega)
          obtain ⟨la, hlae⟩ : ∃ x : Int, x = -1 := ⟨_, rfl⟩
          rw [← hlae] at HNeL ⊢
          clear hla5 hlae hu0
          have HP := hide (upub_up HL5.out HG.out _ _ HU5.out HNlt.out HNe.out)
          go_wp2_with fail
          refine HP.out.mono ?_
          rintro ee w6 ⟨v6, rfl, S6, f6, L6, T6, U6, hits6, hn6, hsd6, hla6, b6, -, -, -, A6⟩
          obtain ⟨br, kr, dr, bp, kp, dp, bq', kq, dq, rfl, -, -⟩ := A6.v.shape
          obtain ⟨il, hil⟩ : ∃ n, n = S5.its.length := ⟨_, rfl⟩
          obtain ⟨ui, hui⟩ : ∃ n, n = S5.n := ⟨_, rfl⟩
          obtain ⟨sg, hsg⟩ : ∃ x, x = sgU S5.seed S5.its (S5.its.length, S5.n) := ⟨_, rfl⟩
          have hV6 := A6.v
          rw [← hsg] at hV6
          have hsn : sg.n = (il : Int) := by rw [hsg, hil]; rfl
          have hsi : sg.i = (ui : Int) := by rw [hsg, hui]; rfl
          rw [← hsg, hsn, hsi] at ⊢
          rw [hsn, hsi] at hV6
          have HV6 := hide hV6
          have HSG : Hid (sg = sgU S6.seed S6.its (il, ui)) := hide (by rw [hsg, hsd6, hits6, hil, hui])
          have HIl : Hid ((il : Int) = (S6.its.length : Int)) := hide (by rw [hil, hits6])
          have HUi : Hid (ui < 16) := hide (by rw [hui]; exact HNlt.out)
          have HN6 : Hid (S6.n = ui + 1) := hide (by rw [hn6, hui])
          have HSd6 : Hid (S6.seed = seedX 1) := hide (by rw [hsd6]; exact HSd5.out)
          have HIt6 : Hid (∀ x ∈ S6.its, ∃ j : Nat, j < k + 1 ∧ x = [(j : Int)]) := hide (by rw [hits6]; exact HIt5.out)
          have HLe6 : Hid (S6.its.length ≤ k + 1) := hide (by rw [hits6]; exact HLe5.out)
          have HLa6 : Hid (S6.la = some (il, ui)) := hide (by rw [hla6, hil, hui])
          have HU6 := hide U6
          have HL6 := hide L6
          have G6 := heap_alloc_new w6 (.cells #[.int .i64 0, .slice none 0 0, .int .i64 0, .slice none 0 0, .slice none 0 0] 72)
          have HKa6 : Hid (Kp [] w6 (w6.alloc (.cells #[.int .i64 0, .slice none 0 0, .int .i64 0, .slice none 0 0, .slice none 0 0] 72))) := (Kp.refl [] _).alloc _
          have hunew : (ui : Int) = u := by rw [hui]; exact congrArg (Nat.cast) HN5.out
          have hu16 : ¬ (u : Int) = 16 := by have := HUi.out; omega
          have hu16' : ((u : Int) == 16) = false := by simpa using hu16
          have hilne : ¬ (il : Int) = la := HNeL.out il hil
          have hilne' : ((il : Int) == la) = false := by simpa using hilne
          have hwu : IntKind.i64.wrap ((u : Int) + 1) = (u : Int) + 1 := by have := HUi.out; simp [IntKind.wrap, IntKind.signed, IntKind.bits]; omega
          have HUn := hide hunew
          clear HP T6 U6 hits6 hn6 hsd6 hla6 A6 hV6 hsg hsn hsi L6 hil hui HL5 hunew
          go_wp2_with (refine wpList_store_flat rfl 72 (.tmp 10) (.tmp 57) rfl w6.heap.size 0 rfl _ _ [.int .i64 (il : Int), .slice br kr dr, .int .i64 (ui : Int), .slice bp kp dp, .slice bq' kq dq] G6 rfl (by simp) Tryz.sgdSize (by simp [Value.oneCell']) #[.int .i64 (il : Int), .slice br kr dr, .int .i64 (ui : Int), .slice bp kp dp, .slice bq' kq dq] rfl ?_; intro w7 G7 K7; refine Hid.out ?_)
          obtain ⟨gs, hgs⟩ : ∃ g, g = w6.heap.size := ⟨_, rfl⟩
          rw [← hgs] at G7 K7 ⊢
          have K67 : Kp [] w6 w7 := HKa6.out.then K7 (fun i hi => .inr (by simp at hi; omega))
          have HL7 := hide (HL6.out.on K67)
          have HV7 := hide (HV6.out.kept K67)
          have HG7 := hide G7
          have HZ := hide (usize_any HL7.out (il : Int) HIl.out)
          clear G6 G7 K7 K67 HKa6 HV6 HL6 hgs
          refine hide ?_
          go_wp2_with fail
          refine HZ.out.mono ?_
          rintro ee w8 ⟨rfl, hw⟩
          subst w8
          go_wp2_with fail
          refine HZ.out.mono ?_
          rintro ee w8 ⟨rfl, hw⟩
          subst w8
          go_wp2_with fail
          refine HZ.out.mono ?_
          rintro ee w8 ⟨rfl, hw⟩
          subst w8
          clear HZ
          rw [← HUn.out]
          have HD7 : Hid (∀ w', Kp [] w7.drew w' → Kp [] w7 w') := fun w' k' => (kp_drew w7).trans k'
          have HGs : Hid (∀ w', Kp [] w7.drew w' → w'.heap[gs]? = some (.cells #[.int .i64 (il : Int), .slice br kr dr, .int .i64 (ui : Int), .slice bp kp dp, .slice bq' kq dq] 72 (0, 0))) := fun w' k' => (HD7.out w' k').heap HG7.out (by simp)
          have HLw : Hid (∀ w', Kp [] w7.drew w' → Lg w w' l pd pk S6 f6) := fun w' k' => HL7.out.on (HD7.out w' k')
          have HVw : Hid (∀ w', Kp [] w7.drew w' → SgV w' (.agg #[.int .i64 (il : Int), .slice br kr dr, .int .i64 (ui : Int), .slice bp kp dp, .slice bq' kq dq]) sg) := fun w' k' => HV7.out.kept (HD7.out w' k')
          have HGw : Hid (∀ w', Kp [] w7.drew w' → Gl w') := fun w' k' => HG.out.kept (HL7.out.kp.trans (HD7.out w' k')) (by simp)
          obtain ⟨P, hP⟩ : ∃ P, P = topP S6.seed := ⟨_, rfl⟩
          have HPe := hide hP
          have HPb : Hid (Bs P) := hide (by rw [hP]; exact (topP_ok _).2)
          have HVe : Hid (true = sg.ver P) := hide (by
            rw [HSG.out, hP]
            unfold sgU
            have h1 := HIl.out
            have h2 := HL7.out.few
            exact (sgnC_ver S6.seed ui HUi.out _ _ (by rw [rgtC_iff, rtU_len]; exact ⟨⟨by omega, by omega⟩, rfl⟩)).symm)
          have HSi : Hid (-9223372036854775808 ≤ sg.i ∧ sg.i ≤ 9223372036854775807) := hide (by
            have : sg.i = (ui : Int) := by rw [HSG.out]; rfl
            have := HUi.out
            omega)
          obtain ⟨us, hus⟩ : ∃ u : Int, u = (ui : Int) + 1 := ⟨_, rfl⟩
          obtain ⟨kl, hkl⟩ : ∃ k : Int, k = 16 - us := ⟨_, rfl⟩
          have HSub : Hid (IntKind.i64.wrap (us - 1) = (ui : Int)) := hide (by have := HUi.out; simp [IntKind.wrap, IntKind.signed, IntKind.bits]; omega)
          have HKl : Hid (IntKind.i64.wrap (16 - us) = kl) := hide (by have := HUi.out; simp [IntKind.wrap, IntKind.signed, IntKind.bits]; omega)
          have HKl2 : Hid (kl = 16 - (S6.n : Int)) := hide (by rw [hkl, hus, HN6.out]; omega)
          rw [← hus]
          have HUs := hide hus
          clear hP hus hkl
          go_wp2_with fail
          refine region_grow Tryz.mixed [Is (.int .i64 0), Is (.bool false), Is (.bool false), Is (.pointer (some ⟨gs, 0, none⟩)), Is (.pointer (some ⟨gs, 0, none⟩)), Is (.int .i64 (il : Int)), Is (.pointer (some ⟨l, 0, none⟩)), Is (.int .i64 (il : Int)), Is (.bool false), Is (.bool false), Is (.bool false), Is (.pointer (some ⟨gs, 2, none⟩)), Is (.pointer (some ⟨gs, 2, none⟩)), Is (.int .i64 (ui : Int)), Is (.int .i64 us), Is (.int .i64 (ui : Int)), Is (.bool false), Is (.bool false), Is (.bool false), Is (.pointer (some ⟨l, 0, none⟩)), Is (.int .i64 kl), Is (.int .i64 us), Is (.int .i64 kl), Is (.bool false), Is (.bool false), Is (.bool false), Is (.pointer (some ⟨l, 0, none⟩)), SlT (P), Is (.agg #[.int .i64 (il : Int), .slice br kr dr, .int .i64 (ui : Int), .slice bp kp dp, .slice bq' kq dq]), Is (.bool true), Is (.bool false), Is (.bool false)] [[(11, none)], [(100, some 0)], [(101, some 1)], [(10, none), (102, some 2)], [(103, some 3), (102, some 2)], [(104, some 4), (102, some 2)], [(3, none), (102, some 2)], [(106, some 6), (102, some 2)], [(105, some 5), (107, some 7), (102, some 2)], [(102, some 2), (108, some 8)], [(109, some 9)], [(10, none), (110, some 10)], [(111, some 11), (110, some 10)], [(112, some 12), (110, some 10)], [(6, none), (110, some 10)], [(114, some 14), (110, some 10)], [(113, some 13), (115, some 15), (110, some 10)], [(110, some 10), (116, some 16)], [(117, some 17)], [(3, none), (118, some 18)], [(119, some 19), (118, some 18)], [(6, none), (118, some 18)], [(121, some 21), (118, some 18)], [(120, some 20), (122, some 22), (118, some 18)], [(118, some 18), (123, some 23)], [(124, some 24)], [(3, none), (125, some 25)], [(126, some 26), (125, some 25)], [(10, none), (125, some 25)], [(127, some 27), (128, some 28), (125, some 25)], [(129, some 29), (125, some 25)], [(125, some 25), (130, some 30)]] (by kernel_rfl) ?_ ?_ ?_
          · simp only [List.mem_cons, List.not_mem_nil, or_false]
            intro R hR
            rcases hR with rfl | rfl | rfl | rfl | rfl | rfl | rfl | rfl | rfl | rfl | rfl | rfl | rfl | rfl | rfl | rfl | rfl | rfl | rfl | rfl | rfl | rfl | rfl | rfl | rfl | rfl | rfl | rfl | rfl | rfl | rfl | rfl <;> first | exact stable_is _ | exact stable_sl _
          · refine steps_cons (fun a w hk hn => ?_) ?_
            · have h11 : a.eval (.tmp 11) = .int .i64 0 := hn.1
              clear hn
              refine wants_plain rfl ?_
              exact grown_move (.tmp 11) rfl h11
            refine steps_cons (fun a w hk hn => ?_) ?_
            · have h100 : a.eval (.tmp 100) = .int .i64 0 := hn.1
              clear hn
              refine wants_plain rfl ?_
              refine grown_run (v := .bool false) ?_ (Kp.refl _ _) rfl
              obtain ⟨ρ, hρ, hc, hf, hg⟩ := eval_is a
              rw [hρ] at h100 ⊢
              simp [go_sem, hc, h100]
            refine steps_cons (fun a w hk hn => ?_) ?_
            · have h101 : a.eval (.tmp 101) = .bool false := hn.1
              clear hn
              refine wants_plain rfl ?_
              exact grown_move (.tmp 101) rfl h101
            refine steps_cons (fun a w hk hn => ?_) ?_
            · have h10 : a.eval (.tmp 10) = .pointer (some ⟨gs, 0, none⟩) := hn.1
              have h102 : a.eval (.tmp 102) = .bool false := hn.2.1
              clear hn
              refine wants_guard (d := 102) rfl rfl h102 ?_
              refine grown_run (v := .pointer (some ⟨gs, 0, none⟩)) ?_ (Kp.refl _ _) rfl
              obtain ⟨ρ, hρ, hc, hf, hg⟩ := eval_is a
              rw [hρ] at h10 ⊢
              simp [go_sem, h10]
            refine steps_cons (fun a w hk hn => ?_) ?_
            · have h103 : a.eval (.tmp 103) = .pointer (some ⟨gs, 0, none⟩) := hn.1
              have h102 : a.eval (.tmp 102) = .bool false := hn.2.1
              clear hn
              refine wants_guard (d := 102) rfl rfl h102 ?_
              refine grown_run (v := .pointer (some ⟨gs, 0, none⟩)) ?_ (Kp.refl _ _) rfl
              obtain ⟨ρ, hρ, hc, hf, hg⟩ := eval_is a
              rw [hρ] at h103 ⊢
              simp [go_sem, h103]
            refine steps_cons (fun a w hk hn => ?_) ?_
            · have h104 : a.eval (.tmp 104) = .pointer (some ⟨gs, 0, none⟩) := hn.1
              have h102 : a.eval (.tmp 102) = .bool false := hn.2.1
              clear hn
              refine wants_guard (d := 102) rfl rfl h102 ?_
              refine grown_run (v := .int .i64 (il : Int)) ?_ (Kp.refl _ _) rfl
              have hcell : w.cell? ⟨gs, 0, none⟩ = some (.int .i64 (il : Int)) := by rw [cell_of_row w gs 0 _ _ _ (HGs.out w hk)]; rfl
              obtain ⟨ρ, hρ, hc, hf, hg⟩ := eval_is a
              rw [hρ] at h104 ⊢
              simp [go_sem, h104, hcell]
            refine steps_cons (fun a w hk hn => ?_) ?_
            · have h3 : a.eval (.tmp 3) = .pointer (some ⟨l, 0, none⟩) := hn.1
              have h102 : a.eval (.tmp 102) = .bool false := hn.2.1
              clear hn
              refine wants_guard (d := 102) rfl rfl h102 ?_
              exact grown_move (.tmp 3) rfl h3
            refine steps_cons (fun a w hk hn => ?_) ?_
            · have h106 : a.eval (.tmp 106) = .pointer (some ⟨l, 0, none⟩) := hn.1
              have h102 : a.eval (.tmp 102) = .bool false := hn.2.1
              clear hn
              refine wants_guard (d := 102) rfl rfl h102 ?_
              refine grown_call (f := 16) rfl Tryz.func16 (by kernel_rfl) (by kernel_rfl) ?_
              simp only [List.map_toArray, List.map_cons, List.map_nil, h106]
              refine (usize_any (HLw.out w hk) (il : Int) HIl.out).mono ?_
              rintro e w' ⟨rfl, rfl⟩
              exact ⟨_, rfl, Kp.refl _ _, rfl⟩
            refine steps_cons (fun a w hk hn => ?_) ?_
            · have h105 : a.eval (.tmp 105) = .int .i64 (il : Int) := hn.1
              have h107 : a.eval (.tmp 107) = .int .i64 (il : Int) := hn.2.1
              have h102 : a.eval (.tmp 102) = .bool false := hn.2.2.1
              clear hn
              refine wants_guard (d := 102) rfl rfl h102 ?_
              refine grown_run (v := .bool false) ?_ (Kp.refl _ _) rfl
              obtain ⟨ρ, hρ, hc, hf, hg⟩ := eval_is a
              rw [hρ] at h105 h107 ⊢
              simp [go_sem, h105, h107]
            refine steps_cons (fun a w hk hn => ?_) ?_
            · have h102 : a.eval (.tmp 102) = .bool false := hn.1
              have h108 : a.eval (.tmp 108) = .bool false := hn.2.1
              clear hn
              refine wants_plain rfl ?_
              exact grown_pick _ _ _ false rfl h102 h108
            refine steps_cons (fun a w hk hn => ?_) ?_
            · have h109 : a.eval (.tmp 109) = .bool false := hn.1
              clear hn
              refine wants_plain rfl ?_
              exact grown_move (.tmp 109) rfl h109
            refine steps_cons (fun a w hk hn => ?_) ?_
            · have h10 : a.eval (.tmp 10) = .pointer (some ⟨gs, 0, none⟩) := hn.1
              have h110 : a.eval (.tmp 110) = .bool false := hn.2.1
              clear hn
              refine wants_guard (d := 110) rfl rfl h110 ?_
              refine grown_run (v := .pointer (some ⟨gs, 2, none⟩)) ?_ (Kp.refl _ _) rfl
              obtain ⟨ρ, hρ, hc, hf, hg⟩ := eval_is a
              rw [hρ] at h10 ⊢
              simp [go_sem, h10]
            refine steps_cons (fun a w hk hn => ?_) ?_
            · have h111 : a.eval (.tmp 111) = .pointer (some ⟨gs, 2, none⟩) := hn.1
              have h110 : a.eval (.tmp 110) = .bool false := hn.2.1
              clear hn
              refine wants_guard (d := 110) rfl rfl h110 ?_
              refine grown_run (v := .pointer (some ⟨gs, 2, none⟩)) ?_ (Kp.refl _ _) rfl
              obtain ⟨ρ, hρ, hc, hf, hg⟩ := eval_is a
              rw [hρ] at h111 ⊢
              simp [go_sem, h111]
            refine steps_cons (fun a w hk hn => ?_) ?_
            · have h112 : a.eval (.tmp 112) = .pointer (some ⟨gs, 2, none⟩) := hn.1
              have h110 : a.eval (.tmp 110) = .bool false := hn.2.1
              clear hn
              refine wants_guard (d := 110) rfl rfl h110 ?_
              refine grown_run (v := .int .i64 (ui : Int)) ?_ (Kp.refl _ _) rfl
              have hcell : w.cell? ⟨gs, 2, none⟩ = some (.int .i64 (ui : Int)) := by rw [cell_of_row w gs 2 _ _ _ (HGs.out w hk)]; rfl
              obtain ⟨ρ, hρ, hc, hf, hg⟩ := eval_is a
              rw [hρ] at h112 ⊢
              simp [go_sem, h112, hcell]
            refine steps_cons (fun a w hk hn => ?_) ?_
            · have h6 : a.eval (.tmp 6) = .int .i64 us := hn.1
              have h110 : a.eval (.tmp 110) = .bool false := hn.2.1
              clear hn
              refine wants_guard (d := 110) rfl rfl h110 ?_
              exact grown_move (.tmp 6) rfl h6
            refine steps_cons (fun a w hk hn => ?_) ?_
            · have h114 : a.eval (.tmp 114) = .int .i64 us := hn.1
              have h110 : a.eval (.tmp 110) = .bool false := hn.2.1
              clear hn
              refine wants_guard (d := 110) rfl rfl h110 ?_
              refine grown_run (v := .int .i64 (ui : Int)) ?_ (Kp.refl _ _) rfl
              obtain ⟨ρ, hρ, hc, hf, hg⟩ := eval_is a
              rw [hρ] at h114 ⊢
              simp [go_sem, hc, h114, HSub.out]
            refine steps_cons (fun a w hk hn => ?_) ?_
            · have h113 : a.eval (.tmp 113) = .int .i64 (ui : Int) := hn.1
              have h115 : a.eval (.tmp 115) = .int .i64 (ui : Int) := hn.2.1
              have h110 : a.eval (.tmp 110) = .bool false := hn.2.2.1
              clear hn
              refine wants_guard (d := 110) rfl rfl h110 ?_
              refine grown_run (v := .bool false) ?_ (Kp.refl _ _) rfl
              obtain ⟨ρ, hρ, hc, hf, hg⟩ := eval_is a
              rw [hρ] at h113 h115 ⊢
              simp [go_sem, h113, h115]
            refine steps_cons (fun a w hk hn => ?_) ?_
            · have h110 : a.eval (.tmp 110) = .bool false := hn.1
              have h116 : a.eval (.tmp 116) = .bool false := hn.2.1
              clear hn
              refine wants_plain rfl ?_
              exact grown_pick _ _ _ false rfl h110 h116
            refine steps_cons (fun a w hk hn => ?_) ?_
            · have h117 : a.eval (.tmp 117) = .bool false := hn.1
              clear hn
              refine wants_plain rfl ?_
              exact grown_move (.tmp 117) rfl h117
            refine steps_cons (fun a w hk hn => ?_) ?_
            · have h3 : a.eval (.tmp 3) = .pointer (some ⟨l, 0, none⟩) := hn.1
              have h118 : a.eval (.tmp 118) = .bool false := hn.2.1
              clear hn
              refine wants_guard (d := 118) rfl rfl h118 ?_
              exact grown_move (.tmp 3) rfl h3
            refine steps_cons (fun a w hk hn => ?_) ?_
            · have h119 : a.eval (.tmp 119) = .pointer (some ⟨l, 0, none⟩) := hn.1
              have h118 : a.eval (.tmp 118) = .bool false := hn.2.1
              clear hn
              refine wants_guard (d := 118) rfl rfl h118 ?_
              refine grown_call (f := 35) rfl Tryz.func35 (by kernel_rfl) (by kernel_rfl) ?_
              simp only [List.map_toArray, List.map_cons, List.map_nil, h119]
              refine (ukeys_any (HLw.out w hk) kl HKl2.out).mono ?_
              rintro e w' ⟨rfl, rfl⟩
              exact ⟨_, rfl, Kp.refl _ _, rfl⟩
            refine steps_cons (fun a w hk hn => ?_) ?_
            · have h6 : a.eval (.tmp 6) = .int .i64 us := hn.1
              have h118 : a.eval (.tmp 118) = .bool false := hn.2.1
              clear hn
              refine wants_guard (d := 118) rfl rfl h118 ?_
              exact grown_move (.tmp 6) rfl h6
            refine steps_cons (fun a w hk hn => ?_) ?_
            · have h121 : a.eval (.tmp 121) = .int .i64 us := hn.1
              have h118 : a.eval (.tmp 118) = .bool false := hn.2.1
              clear hn
              refine wants_guard (d := 118) rfl rfl h118 ?_
              refine grown_run (v := .int .i64 kl) ?_ (Kp.refl _ _) rfl
              obtain ⟨ρ, hρ, hc, hf, hg⟩ := eval_is a
              rw [hρ] at h121 ⊢
              simp [go_sem, hc, h121, HKl.out]
            refine steps_cons (fun a w hk hn => ?_) ?_
            · have h120 : a.eval (.tmp 120) = .int .i64 kl := hn.1
              have h122 : a.eval (.tmp 122) = .int .i64 kl := hn.2.1
              have h118 : a.eval (.tmp 118) = .bool false := hn.2.2.1
              clear hn
              refine wants_guard (d := 118) rfl rfl h118 ?_
              refine grown_run (v := .bool false) ?_ (Kp.refl _ _) rfl
              obtain ⟨ρ, hρ, hc, hf, hg⟩ := eval_is a
              rw [hρ] at h120 h122 ⊢
              simp [go_sem, h120, h122]
            refine steps_cons (fun a w hk hn => ?_) ?_
            · have h118 : a.eval (.tmp 118) = .bool false := hn.1
              have h123 : a.eval (.tmp 123) = .bool false := hn.2.1
              clear hn
              refine wants_plain rfl ?_
              exact grown_pick _ _ _ false rfl h118 h123
            refine steps_cons (fun a w hk hn => ?_) ?_
            · have h124 : a.eval (.tmp 124) = .bool false := hn.1
              clear hn
              refine wants_plain rfl ?_
              exact grown_move (.tmp 124) rfl h124
            refine steps_cons (fun a w hk hn => ?_) ?_
            · have h3 : a.eval (.tmp 3) = .pointer (some ⟨l, 0, none⟩) := hn.1
              have h125 : a.eval (.tmp 125) = .bool false := hn.2.1
              clear hn
              refine wants_guard (d := 125) rfl rfl h125 ?_
              exact grown_move (.tmp 3) rfl h3
            refine steps_cons (fun a w hk hn => ?_) ?_
            · have h126 : a.eval (.tmp 126) = .pointer (some ⟨l, 0, none⟩) := hn.1
              have h125 : a.eval (.tmp 125) = .bool false := hn.2.1
              clear hn
              refine wants_guard (d := 125) rfl rfl h125 ?_
              refine grown_call (f := 39) rfl Tryz.func39 (by kernel_rfl) (by kernel_rfl) ?_
              simp only [List.map_toArray, List.map_cons, List.map_nil, h126]
              refine (upublic_any (HLw.out w hk) P HPe.out (HGw.out w hk)).mono ?_
              rintro e w' ⟨ao, m, c, rfl, R, K⟩
              exact ⟨_, rfl, K, R⟩
            refine steps_cons (fun a w hk hn => ?_) ?_
            · have h10 : a.eval (.tmp 10) = .pointer (some ⟨gs, 0, none⟩) := hn.1
              have h125 : a.eval (.tmp 125) = .bool false := hn.2.1
              clear hn
              refine wants_guard (d := 125) rfl rfl h125 ?_
              exact grown_loadf 72 (.tmp 10) rfl gs 0 h10 _ _ _ _ (HGs.out w hk) [.int .i64 (il : Int), .slice br kr dr, .int .i64 (ui : Int), .slice bp kp dp, .slice bq' kq dq] (flat_in rfl) Tryz.underlying72 rfl Tryz.sgdSize rfl
            refine steps_cons (fun a w hk hn => ?_) ?_
            · have h127 : Sl w (a.eval (.tmp 127)) (P) := hn.1
              have h128 : a.eval (.tmp 128) = .agg #[.int .i64 (il : Int), .slice br kr dr, .int .i64 (ui : Int), .slice bp kp dp, .slice bq' kq dq] := hn.2.1
              have h125 : a.eval (.tmp 125) = .bool false := hn.2.2.1
              clear hn
              refine wants_guard (d := 125) rfl rfl h125 ?_
              refine grown_call (f := 38) rfl Tryz.func38 (by kernel_rfl) (by kernel_rfl) ?_
              simp only [List.map_toArray, List.map_cons, List.map_nil, h128]
              refine (rckverify_any _ P _ sg true HVe.out w h127 HPb.out (HVw.out w hk) HSi.out).mono ?_
              rintro e w' ⟨rfl, K⟩
              exact ⟨_, rfl, K, rfl⟩
            refine steps_cons (fun a w hk hn => ?_) ?_
            · have h129 : a.eval (.tmp 129) = .bool true := hn.1
              have h125 : a.eval (.tmp 125) = .bool false := hn.2.1
              clear hn
              refine wants_guard (d := 125) rfl rfl h125 ?_
              refine grown_run (v := .bool false) ?_ (Kp.refl _ _) rfl
              obtain ⟨ρ, hρ, hc, hf, hg⟩ := eval_is a
              rw [hρ] at h129 ⊢
              simp [go_sem, h129]
            refine steps_cons (fun a w hk hn => ?_) ?_
            · have h125 : a.eval (.tmp 125) = .bool false := hn.1
              have h130 : a.eval (.tmp 130) = .bool false := hn.2.1
              clear hn
              refine wants_plain rfl ?_
              exact grown_pick _ _ _ false rfl h125 h130
            exact trivial
          intro W1 hkW1
          rintro _ rfl
          rintro _ rfl
          rintro _ rfl
          rintro _ rfl
          rintro _ rfl
          rintro _ rfl
          rintro _ rfl
          rintro _ rfl
          rintro _ rfl
          rintro _ rfl
          rintro _ rfl
          rintro _ rfl
          rintro _ rfl
          rintro _ rfl
          rintro _ rfl
          rintro _ rfl
          rintro _ rfl
          rintro _ rfl
          rintro _ rfl
          rintro _ rfl
          rintro _ rfl
          rintro _ rfl
          rintro _ rfl
          rintro _ rfl
          rintro _ rfl
          rintro _ rfl
          rintro _ rfl
          intro v127 h127
          rintro _ rfl
          rintro _ rfl
          rintro _ rfl
          rintro _ rfl
          refine fin_nil ?_
          simp only [Act.put, List.set_cons_zero, List.set_cons_succ, List.setIfInBounds_toArray]
          have K71 := HD7.out W1 hkW1
          have HL8 := hide (HL7.out.on K71)
          clear hkW1 K71 h127
          go_wp2_with fail
          go_roundw
          case rel =>
            refine ⟨k + 1, by omega, by omega, by go_num, (il : Int), us, rfl, rfl, S6, f6, ui + 1, HL8.out, HU6.out, HN6.out, by rw [HUs.out]; omega, HSd6.out, HIt6.out, HLe6.out, .inr ⟨il, by rw [HLa6.out]; rfl, rfl, by omega⟩⟩
          case measure => simp [intOf]; omega
        · by_cases hsame : a = S5.its.length
          · obtain ⟨il, hil⟩ : ∃ n, n = a := ⟨_, rfl⟩
            obtain ⟨ui, hui⟩ : ∃ n, n = u - 1 := ⟨_, rfl⟩
            have HLa5 : Hid (S5.la = some (il, ui)) := hide (by rw [hla5, hil, hui])
            have HIlE : Hid (il = S5.its.length) := hide (by rw [hil]; exact hsame)
            have HUi : Hid (ui < 16) := hide (by omega)
            have hue : (u : Int) = (ui : Int) + 1 := by omega
            rw [← hil, hue]
            have HN6 : Hid (S5.n = ui + 1) := hide (by rw [HN5.out]; omega)
            clear hla5 hsame hil hui hue hu1 HN5 hu16
            have HP := hide (upublish_old HL5.out il ui HLa5.out HIlE.out)
            go_wp2_with fail
            refine HP.out.mono ?_
            rintro ee w6 ⟨v6, rfl, A6, K6⟩
            obtain ⟨br, kr, dr, bp, kp, dp, bq', kq, dq, rfl, -, -⟩ := A6.v.shape
            obtain ⟨sg, hsg⟩ : ∃ x, x = sgU S5.seed S5.its (il, ui) := ⟨_, rfl⟩
            have hV6 := A6.v
            rw [← hsg] at hV6
            have hsn : sg.n = (il : Int) := by rw [hsg]; rfl
            have hsi : sg.i = (ui : Int) := by rw [hsg]; rfl
            rw [← hsg, hsn, hsi] at ⊢
            rw [hsn, hsi] at hV6
            have HV6 := hide hV6
            have HSG : Hid (sg = sgU S5.seed S5.its (il, ui)) := hide hsg
            have HIl : Hid ((il : Int) = (S5.its.length : Int)) := hide (by rw [← HIlE.out])
            have HL6 := hide (HL5.out.on K6)
            have G6 := heap_alloc_new w6 (.cells #[.int .i64 0, .slice none 0 0, .int .i64 0, .slice none 0 0, .slice none 0 0] 72)
            have HKa6 : Hid (Kp [] w6 (w6.alloc (.cells #[.int .i64 0, .slice none 0 0, .int .i64 0, .slice none 0 0, .slice none 0 0] 72))) := (Kp.refl [] _).alloc _
            clear HP A6 hV6 hsg hsn hsi K6 HL5
            go_wp2_with (refine wpList_store_flat rfl 72 (.tmp 10) (.tmp 57) rfl w6.heap.size 0 rfl _ _ [.int .i64 (il : Int), .slice br kr dr, .int .i64 (ui : Int), .slice bp kp dp, .slice bq' kq dq] G6 rfl (by simp) Tryz.sgdSize (by simp [Value.oneCell']) #[.int .i64 (il : Int), .slice br kr dr, .int .i64 (ui : Int), .slice bp kp dp, .slice bq' kq dq] rfl ?_; intro w7 G7 K7; refine Hid.out ?_)
            obtain ⟨gs, hgs⟩ : ∃ g, g = w6.heap.size := ⟨_, rfl⟩
            rw [← hgs] at G7 K7 ⊢
            have K67 : Kp [] w6 w7 := HKa6.out.then K7 (fun i hi => .inr (by simp at hi; omega))
            have HL7 := hide (HL6.out.on K67)
            have HV7 := hide (HV6.out.kept K67)
            have HG7 := hide G7
            have HZ := hide (usize_any HL7.out (il : Int) HIl.out)
            clear G6 G7 K7 K67 HKa6 HV6 HL6 hgs
            refine hide ?_
            go_wp2_with fail
            refine HZ.out.mono ?_
            rintro ee w8 ⟨rfl, hw⟩
            subst w8
            go_wp2_with fail
            refine HZ.out.mono ?_
            rintro ee w8 ⟨rfl, hw⟩
            subst w8
            clear HZ
            have HD7 : Hid (∀ w', Kp [] w7.drew w' → Kp [] w7 w') := fun w' k' => (kp_drew w7).trans k'
            have HGs : Hid (∀ w', Kp [] w7.drew w' → w'.heap[gs]? = some (.cells #[.int .i64 (il : Int), .slice br kr dr, .int .i64 (ui : Int), .slice bp kp dp, .slice bq' kq dq] 72 (0, 0))) := fun w' k' => (HD7.out w' k').heap HG7.out (by simp)
            have HLw : Hid (∀ w', Kp [] w7.drew w' → Lg w w' l pd pk S5 f5) := fun w' k' => HL7.out.on (HD7.out w' k')
            have HVw : Hid (∀ w', Kp [] w7.drew w' → SgV w' (.agg #[.int .i64 (il : Int), .slice br kr dr, .int .i64 (ui : Int), .slice bp kp dp, .slice bq' kq dq]) sg) := fun w' k' => HV7.out.kept (HD7.out w' k')
            have HGw : Hid (∀ w', Kp [] w7.drew w' → Gl w') := fun w' k' => HG.out.kept (HL7.out.kp.trans (HD7.out w' k')) (by simp)
            obtain ⟨P, hP⟩ : ∃ P, P = topP S5.seed := ⟨_, rfl⟩
            have HPe := hide hP
            have HPb : Hid (Bs P) := hide (by rw [hP]; exact (topP_ok _).2)
            have HVe : Hid (true = sg.ver P) := hide (by
              rw [HSG.out, hP]
              unfold sgU
              have h1 := HIl.out
              have h2 := HL7.out.few
              exact (sgnC_ver S5.seed ui HUi.out _ _ (by rw [rgtC_iff, rtU_len]; exact ⟨⟨by omega, by omega⟩, rfl⟩)).symm)
            have HSi : Hid (-9223372036854775808 ≤ sg.i ∧ sg.i ≤ 9223372036854775807) := hide (by
              have : sg.i = (ui : Int) := by rw [HSG.out]; rfl
              have := HUi.out
              omega)
            obtain ⟨us, hus⟩ : ∃ u : Int, u = (ui : Int) + 1 := ⟨_, rfl⟩
            obtain ⟨kl, hkl⟩ : ∃ k : Int, k = 16 - us := ⟨_, rfl⟩
            have HSub : Hid (IntKind.i64.wrap (us - 1) = (ui : Int)) := hide (by have := HUi.out; simp [IntKind.wrap, IntKind.signed, IntKind.bits]; omega)
            have HKl : Hid (IntKind.i64.wrap (16 - us) = kl) := hide (by have := HUi.out; simp [IntKind.wrap, IntKind.signed, IntKind.bits]; omega)
            have HKl2 : Hid (kl = 16 - (S5.n : Int)) := hide (by rw [hkl, hus, HN6.out]; omega)
            rw [← hus]
            have HUs := hide hus
            clear hP hus hkl
            go_wp2_with fail
            refine region_grow Tryz.mixed [Is (.int .i64 0), Is (.bool false), Is (.bool false), Is (.pointer (some ⟨gs, 0, none⟩)), Is (.pointer (some ⟨gs, 0, none⟩)), Is (.int .i64 (il : Int)), Is (.pointer (some ⟨l, 0, none⟩)), Is (.int .i64 (il : Int)), Is (.bool false), Is (.bool false), Is (.bool false), Is (.pointer (some ⟨gs, 2, none⟩)), Is (.pointer (some ⟨gs, 2, none⟩)), Is (.int .i64 (ui : Int)), Is (.int .i64 us), Is (.int .i64 (ui : Int)), Is (.bool false), Is (.bool false), Is (.bool false), Is (.pointer (some ⟨l, 0, none⟩)), Is (.int .i64 kl), Is (.int .i64 us), Is (.int .i64 kl), Is (.bool false), Is (.bool false), Is (.bool false), Is (.pointer (some ⟨l, 0, none⟩)), SlT (P), Is (.agg #[.int .i64 (il : Int), .slice br kr dr, .int .i64 (ui : Int), .slice bp kp dp, .slice bq' kq dq]), Is (.bool true), Is (.bool false), Is (.bool false)] [[(11, none)], [(100, some 0)], [(101, some 1)], [(10, none), (102, some 2)], [(103, some 3), (102, some 2)], [(104, some 4), (102, some 2)], [(3, none), (102, some 2)], [(106, some 6), (102, some 2)], [(105, some 5), (107, some 7), (102, some 2)], [(102, some 2), (108, some 8)], [(109, some 9)], [(10, none), (110, some 10)], [(111, some 11), (110, some 10)], [(112, some 12), (110, some 10)], [(6, none), (110, some 10)], [(114, some 14), (110, some 10)], [(113, some 13), (115, some 15), (110, some 10)], [(110, some 10), (116, some 16)], [(117, some 17)], [(3, none), (118, some 18)], [(119, some 19), (118, some 18)], [(6, none), (118, some 18)], [(121, some 21), (118, some 18)], [(120, some 20), (122, some 22), (118, some 18)], [(118, some 18), (123, some 23)], [(124, some 24)], [(3, none), (125, some 25)], [(126, some 26), (125, some 25)], [(10, none), (125, some 25)], [(127, some 27), (128, some 28), (125, some 25)], [(129, some 29), (125, some 25)], [(125, some 25), (130, some 30)]] (by kernel_rfl) ?_ ?_ ?_
            · simp only [List.mem_cons, List.not_mem_nil, or_false]
              intro R hR
              rcases hR with rfl | rfl | rfl | rfl | rfl | rfl | rfl | rfl | rfl | rfl | rfl | rfl | rfl | rfl | rfl | rfl | rfl | rfl | rfl | rfl | rfl | rfl | rfl | rfl | rfl | rfl | rfl | rfl | rfl | rfl | rfl | rfl <;> first | exact stable_is _ | exact stable_sl _
            · refine steps_cons (fun a w hk hn => ?_) ?_
              · have h11 : a.eval (.tmp 11) = .int .i64 0 := hn.1
                clear hn
                refine wants_plain rfl ?_
                exact grown_move (.tmp 11) rfl h11
              refine steps_cons (fun a w hk hn => ?_) ?_
              · have h100 : a.eval (.tmp 100) = .int .i64 0 := hn.1
                clear hn
                refine wants_plain rfl ?_
                refine grown_run (v := .bool false) ?_ (Kp.refl _ _) rfl
                obtain ⟨ρ, hρ, hc, hf, hg⟩ := eval_is a
                rw [hρ] at h100 ⊢
                simp [go_sem, hc, h100]
              refine steps_cons (fun a w hk hn => ?_) ?_
              · have h101 : a.eval (.tmp 101) = .bool false := hn.1
                clear hn
                refine wants_plain rfl ?_
                exact grown_move (.tmp 101) rfl h101
              refine steps_cons (fun a w hk hn => ?_) ?_
              · have h10 : a.eval (.tmp 10) = .pointer (some ⟨gs, 0, none⟩) := hn.1
                have h102 : a.eval (.tmp 102) = .bool false := hn.2.1
                clear hn
                refine wants_guard (d := 102) rfl rfl h102 ?_
                refine grown_run (v := .pointer (some ⟨gs, 0, none⟩)) ?_ (Kp.refl _ _) rfl
                obtain ⟨ρ, hρ, hc, hf, hg⟩ := eval_is a
                rw [hρ] at h10 ⊢
                simp [go_sem, h10]
              refine steps_cons (fun a w hk hn => ?_) ?_
              · have h103 : a.eval (.tmp 103) = .pointer (some ⟨gs, 0, none⟩) := hn.1
                have h102 : a.eval (.tmp 102) = .bool false := hn.2.1
                clear hn
                refine wants_guard (d := 102) rfl rfl h102 ?_
                refine grown_run (v := .pointer (some ⟨gs, 0, none⟩)) ?_ (Kp.refl _ _) rfl
                obtain ⟨ρ, hρ, hc, hf, hg⟩ := eval_is a
                rw [hρ] at h103 ⊢
                simp [go_sem, h103]
              refine steps_cons (fun a w hk hn => ?_) ?_
              · have h104 : a.eval (.tmp 104) = .pointer (some ⟨gs, 0, none⟩) := hn.1
                have h102 : a.eval (.tmp 102) = .bool false := hn.2.1
                clear hn
                refine wants_guard (d := 102) rfl rfl h102 ?_
                refine grown_run (v := .int .i64 (il : Int)) ?_ (Kp.refl _ _) rfl
                have hcell : w.cell? ⟨gs, 0, none⟩ = some (.int .i64 (il : Int)) := by rw [cell_of_row w gs 0 _ _ _ (HGs.out w hk)]; rfl
                obtain ⟨ρ, hρ, hc, hf, hg⟩ := eval_is a
                rw [hρ] at h104 ⊢
                simp [go_sem, h104, hcell]
              refine steps_cons (fun a w hk hn => ?_) ?_
              · have h3 : a.eval (.tmp 3) = .pointer (some ⟨l, 0, none⟩) := hn.1
                have h102 : a.eval (.tmp 102) = .bool false := hn.2.1
                clear hn
                refine wants_guard (d := 102) rfl rfl h102 ?_
                exact grown_move (.tmp 3) rfl h3
              refine steps_cons (fun a w hk hn => ?_) ?_
              · have h106 : a.eval (.tmp 106) = .pointer (some ⟨l, 0, none⟩) := hn.1
                have h102 : a.eval (.tmp 102) = .bool false := hn.2.1
                clear hn
                refine wants_guard (d := 102) rfl rfl h102 ?_
                refine grown_call (f := 16) rfl Tryz.func16 (by kernel_rfl) (by kernel_rfl) ?_
                simp only [List.map_toArray, List.map_cons, List.map_nil, h106]
                refine (usize_any (HLw.out w hk) (il : Int) HIl.out).mono ?_
                rintro e w' ⟨rfl, rfl⟩
                exact ⟨_, rfl, Kp.refl _ _, rfl⟩
              refine steps_cons (fun a w hk hn => ?_) ?_
              · have h105 : a.eval (.tmp 105) = .int .i64 (il : Int) := hn.1
                have h107 : a.eval (.tmp 107) = .int .i64 (il : Int) := hn.2.1
                have h102 : a.eval (.tmp 102) = .bool false := hn.2.2.1
                clear hn
                refine wants_guard (d := 102) rfl rfl h102 ?_
                refine grown_run (v := .bool false) ?_ (Kp.refl _ _) rfl
                obtain ⟨ρ, hρ, hc, hf, hg⟩ := eval_is a
                rw [hρ] at h105 h107 ⊢
                simp [go_sem, h105, h107]
              refine steps_cons (fun a w hk hn => ?_) ?_
              · have h102 : a.eval (.tmp 102) = .bool false := hn.1
                have h108 : a.eval (.tmp 108) = .bool false := hn.2.1
                clear hn
                refine wants_plain rfl ?_
                exact grown_pick _ _ _ false rfl h102 h108
              refine steps_cons (fun a w hk hn => ?_) ?_
              · have h109 : a.eval (.tmp 109) = .bool false := hn.1
                clear hn
                refine wants_plain rfl ?_
                exact grown_move (.tmp 109) rfl h109
              refine steps_cons (fun a w hk hn => ?_) ?_
              · have h10 : a.eval (.tmp 10) = .pointer (some ⟨gs, 0, none⟩) := hn.1
                have h110 : a.eval (.tmp 110) = .bool false := hn.2.1
                clear hn
                refine wants_guard (d := 110) rfl rfl h110 ?_
                refine grown_run (v := .pointer (some ⟨gs, 2, none⟩)) ?_ (Kp.refl _ _) rfl
                obtain ⟨ρ, hρ, hc, hf, hg⟩ := eval_is a
                rw [hρ] at h10 ⊢
                simp [go_sem, h10]
              refine steps_cons (fun a w hk hn => ?_) ?_
              · have h111 : a.eval (.tmp 111) = .pointer (some ⟨gs, 2, none⟩) := hn.1
                have h110 : a.eval (.tmp 110) = .bool false := hn.2.1
                clear hn
                refine wants_guard (d := 110) rfl rfl h110 ?_
                refine grown_run (v := .pointer (some ⟨gs, 2, none⟩)) ?_ (Kp.refl _ _) rfl
                obtain ⟨ρ, hρ, hc, hf, hg⟩ := eval_is a
                rw [hρ] at h111 ⊢
                simp [go_sem, h111]
              refine steps_cons (fun a w hk hn => ?_) ?_
              · have h112 : a.eval (.tmp 112) = .pointer (some ⟨gs, 2, none⟩) := hn.1
                have h110 : a.eval (.tmp 110) = .bool false := hn.2.1
                clear hn
                refine wants_guard (d := 110) rfl rfl h110 ?_
                refine grown_run (v := .int .i64 (ui : Int)) ?_ (Kp.refl _ _) rfl
                have hcell : w.cell? ⟨gs, 2, none⟩ = some (.int .i64 (ui : Int)) := by rw [cell_of_row w gs 2 _ _ _ (HGs.out w hk)]; rfl
                obtain ⟨ρ, hρ, hc, hf, hg⟩ := eval_is a
                rw [hρ] at h112 ⊢
                simp [go_sem, h112, hcell]
              refine steps_cons (fun a w hk hn => ?_) ?_
              · have h6 : a.eval (.tmp 6) = .int .i64 us := hn.1
                have h110 : a.eval (.tmp 110) = .bool false := hn.2.1
                clear hn
                refine wants_guard (d := 110) rfl rfl h110 ?_
                exact grown_move (.tmp 6) rfl h6
              refine steps_cons (fun a w hk hn => ?_) ?_
              · have h114 : a.eval (.tmp 114) = .int .i64 us := hn.1
                have h110 : a.eval (.tmp 110) = .bool false := hn.2.1
                clear hn
                refine wants_guard (d := 110) rfl rfl h110 ?_
                refine grown_run (v := .int .i64 (ui : Int)) ?_ (Kp.refl _ _) rfl
                obtain ⟨ρ, hρ, hc, hf, hg⟩ := eval_is a
                rw [hρ] at h114 ⊢
                simp [go_sem, hc, h114, HSub.out]
              refine steps_cons (fun a w hk hn => ?_) ?_
              · have h113 : a.eval (.tmp 113) = .int .i64 (ui : Int) := hn.1
                have h115 : a.eval (.tmp 115) = .int .i64 (ui : Int) := hn.2.1
                have h110 : a.eval (.tmp 110) = .bool false := hn.2.2.1
                clear hn
                refine wants_guard (d := 110) rfl rfl h110 ?_
                refine grown_run (v := .bool false) ?_ (Kp.refl _ _) rfl
                obtain ⟨ρ, hρ, hc, hf, hg⟩ := eval_is a
                rw [hρ] at h113 h115 ⊢
                simp [go_sem, h113, h115]
              refine steps_cons (fun a w hk hn => ?_) ?_
              · have h110 : a.eval (.tmp 110) = .bool false := hn.1
                have h116 : a.eval (.tmp 116) = .bool false := hn.2.1
                clear hn
                refine wants_plain rfl ?_
                exact grown_pick _ _ _ false rfl h110 h116
              refine steps_cons (fun a w hk hn => ?_) ?_
              · have h117 : a.eval (.tmp 117) = .bool false := hn.1
                clear hn
                refine wants_plain rfl ?_
                exact grown_move (.tmp 117) rfl h117
              refine steps_cons (fun a w hk hn => ?_) ?_
              · have h3 : a.eval (.tmp 3) = .pointer (some ⟨l, 0, none⟩) := hn.1
                have h118 : a.eval (.tmp 118) = .bool false := hn.2.1
                clear hn
                refine wants_guard (d := 118) rfl rfl h118 ?_
                exact grown_move (.tmp 3) rfl h3
              refine steps_cons (fun a w hk hn => ?_) ?_
              · have h119 : a.eval (.tmp 119) = .pointer (some ⟨l, 0, none⟩) := hn.1
                have h118 : a.eval (.tmp 118) = .bool false := hn.2.1
                clear hn
                refine wants_guard (d := 118) rfl rfl h118 ?_
                refine grown_call (f := 35) rfl Tryz.func35 (by kernel_rfl) (by kernel_rfl) ?_
                simp only [List.map_toArray, List.map_cons, List.map_nil, h119]
                refine (ukeys_any (HLw.out w hk) kl HKl2.out).mono ?_
                rintro e w' ⟨rfl, rfl⟩
                exact ⟨_, rfl, Kp.refl _ _, rfl⟩
              refine steps_cons (fun a w hk hn => ?_) ?_
              · have h6 : a.eval (.tmp 6) = .int .i64 us := hn.1
                have h118 : a.eval (.tmp 118) = .bool false := hn.2.1
                clear hn
                refine wants_guard (d := 118) rfl rfl h118 ?_
                exact grown_move (.tmp 6) rfl h6
              refine steps_cons (fun a w hk hn => ?_) ?_
              · have h121 : a.eval (.tmp 121) = .int .i64 us := hn.1
                have h118 : a.eval (.tmp 118) = .bool false := hn.2.1
                clear hn
                refine wants_guard (d := 118) rfl rfl h118 ?_
                refine grown_run (v := .int .i64 kl) ?_ (Kp.refl _ _) rfl
                obtain ⟨ρ, hρ, hc, hf, hg⟩ := eval_is a
                rw [hρ] at h121 ⊢
                simp [go_sem, hc, h121, HKl.out]
              refine steps_cons (fun a w hk hn => ?_) ?_
              · have h120 : a.eval (.tmp 120) = .int .i64 kl := hn.1
                have h122 : a.eval (.tmp 122) = .int .i64 kl := hn.2.1
                have h118 : a.eval (.tmp 118) = .bool false := hn.2.2.1
                clear hn
                refine wants_guard (d := 118) rfl rfl h118 ?_
                refine grown_run (v := .bool false) ?_ (Kp.refl _ _) rfl
                obtain ⟨ρ, hρ, hc, hf, hg⟩ := eval_is a
                rw [hρ] at h120 h122 ⊢
                simp [go_sem, h120, h122]
              refine steps_cons (fun a w hk hn => ?_) ?_
              · have h118 : a.eval (.tmp 118) = .bool false := hn.1
                have h123 : a.eval (.tmp 123) = .bool false := hn.2.1
                clear hn
                refine wants_plain rfl ?_
                exact grown_pick _ _ _ false rfl h118 h123
              refine steps_cons (fun a w hk hn => ?_) ?_
              · have h124 : a.eval (.tmp 124) = .bool false := hn.1
                clear hn
                refine wants_plain rfl ?_
                exact grown_move (.tmp 124) rfl h124
              refine steps_cons (fun a w hk hn => ?_) ?_
              · have h3 : a.eval (.tmp 3) = .pointer (some ⟨l, 0, none⟩) := hn.1
                have h125 : a.eval (.tmp 125) = .bool false := hn.2.1
                clear hn
                refine wants_guard (d := 125) rfl rfl h125 ?_
                exact grown_move (.tmp 3) rfl h3
              refine steps_cons (fun a w hk hn => ?_) ?_
              · have h126 : a.eval (.tmp 126) = .pointer (some ⟨l, 0, none⟩) := hn.1
                have h125 : a.eval (.tmp 125) = .bool false := hn.2.1
                clear hn
                refine wants_guard (d := 125) rfl rfl h125 ?_
                refine grown_call (f := 39) rfl Tryz.func39 (by kernel_rfl) (by kernel_rfl) ?_
                simp only [List.map_toArray, List.map_cons, List.map_nil, h126]
                refine (upublic_any (HLw.out w hk) P HPe.out (HGw.out w hk)).mono ?_
                rintro e w' ⟨ao, m, c, rfl, R, K⟩
                exact ⟨_, rfl, K, R⟩
              refine steps_cons (fun a w hk hn => ?_) ?_
              · have h10 : a.eval (.tmp 10) = .pointer (some ⟨gs, 0, none⟩) := hn.1
                have h125 : a.eval (.tmp 125) = .bool false := hn.2.1
                clear hn
                refine wants_guard (d := 125) rfl rfl h125 ?_
                exact grown_loadf 72 (.tmp 10) rfl gs 0 h10 _ _ _ _ (HGs.out w hk) [.int .i64 (il : Int), .slice br kr dr, .int .i64 (ui : Int), .slice bp kp dp, .slice bq' kq dq] (flat_in rfl) Tryz.underlying72 rfl Tryz.sgdSize rfl
              refine steps_cons (fun a w hk hn => ?_) ?_
              · have h127 : Sl w (a.eval (.tmp 127)) (P) := hn.1
                have h128 : a.eval (.tmp 128) = .agg #[.int .i64 (il : Int), .slice br kr dr, .int .i64 (ui : Int), .slice bp kp dp, .slice bq' kq dq] := hn.2.1
                have h125 : a.eval (.tmp 125) = .bool false := hn.2.2.1
                clear hn
                refine wants_guard (d := 125) rfl rfl h125 ?_
                refine grown_call (f := 38) rfl Tryz.func38 (by kernel_rfl) (by kernel_rfl) ?_
                simp only [List.map_toArray, List.map_cons, List.map_nil, h128]
                refine (rckverify_any _ P _ sg true HVe.out w h127 HPb.out (HVw.out w hk) HSi.out).mono ?_
                rintro e w' ⟨rfl, K⟩
                exact ⟨_, rfl, K, rfl⟩
              refine steps_cons (fun a w hk hn => ?_) ?_
              · have h129 : a.eval (.tmp 129) = .bool true := hn.1
                have h125 : a.eval (.tmp 125) = .bool false := hn.2.1
                clear hn
                refine wants_guard (d := 125) rfl rfl h125 ?_
                refine grown_run (v := .bool false) ?_ (Kp.refl _ _) rfl
                obtain ⟨ρ, hρ, hc, hf, hg⟩ := eval_is a
                rw [hρ] at h129 ⊢
                simp [go_sem, h129]
              refine steps_cons (fun a w hk hn => ?_) ?_
              · have h125 : a.eval (.tmp 125) = .bool false := hn.1
                have h130 : a.eval (.tmp 130) = .bool false := hn.2.1
                clear hn
                refine wants_plain rfl ?_
                exact grown_pick _ _ _ false rfl h125 h130
              exact trivial
            intro W1 hkW1
            rintro _ rfl
            rintro _ rfl
            rintro _ rfl
            rintro _ rfl
            rintro _ rfl
            rintro _ rfl
            rintro _ rfl
            rintro _ rfl
            rintro _ rfl
            rintro _ rfl
            rintro _ rfl
            rintro _ rfl
            rintro _ rfl
            rintro _ rfl
            rintro _ rfl
            rintro _ rfl
            rintro _ rfl
            rintro _ rfl
            rintro _ rfl
            rintro _ rfl
            rintro _ rfl
            rintro _ rfl
            rintro _ rfl
            rintro _ rfl
            rintro _ rfl
            rintro _ rfl
            rintro _ rfl
            intro v127 h127
            rintro _ rfl
            rintro _ rfl
            rintro _ rfl
            rintro _ rfl
            refine fin_nil ?_
            simp only [Act.put, List.set_cons_zero, List.set_cons_succ, List.setIfInBounds_toArray]
            have K71 := HD7.out W1 hkW1
            have HL8 := hide (HL7.out.on K71)
            clear hkW1 K71 h127
            go_wp2_with fail
            go_roundw
            case rel =>
              refine ⟨k + 1, by omega, by omega, by go_num, (il : Int), us, rfl, rfl, S5, f5, ui + 1, HL8.out, HU5.out, HN6.out, by rw [HUs.out]; omega, HSd5.out, HIt5.out, HLe5.out, .inr ⟨il, by rw [HLa5.out]; rfl, rfl, by omega⟩⟩
            case measure => simp [intOf]; omega
          · have HNe : Hid (∀ a, S5.la = some a → a.1 ≠ S5.its.length) := hide (fun b hb e => by rw [hla5] at hb; cases hb; exact hsame e)
            have HNeL : Hid (∀ n, n = S5.its.length → ¬ (n : Int) = (a : Int)) := hide (fun n hn e => by omega)
            obtain ⟨la, hlae⟩ : ∃ x : Int, x = (a : Int) := ⟨_, rfl⟩
            by_cases h16 : u = 16
            · have HN16 : Hid (S5.n = 16) := hide (by rw [HN5.out]; exact h16)
              obtain ⟨b5, hb5⟩ : ∃ b, b = u - 1 := ⟨_, rfl⟩
              have HLa5 : Hid (S5.la = some (a, b5)) := hide (by rw [hla5, hb5])
              have HB5 : Hid (b5 = 15) := hide (by omega)
              subst h16
              clear hla5 hb5 hsame hu1 hlae la
              have HP := hide (upub_full HL5.out HN16.out HNe.out)
              go_wp2_with fail
              refine HP.out.mono ?_
              rintro ee w6 ⟨rfl, K6⟩
              obtain ⟨il, hil⟩ : ∃ n, n = S5.its.length := ⟨_, rfl⟩
              have hilne : ¬ (il : Int) = (a : Int) := HNeL.out il hil
              have hilne' : ((il : Int) == (a : Int)) = false := by simpa using hilne
              have HL6 := hide (HL5.out.on K6)
              have G6 := heap_alloc_new w6 (.cells #[.int .i64 0, .slice none 0 0, .int .i64 0, .slice none 0 0, .slice none 0 0] 72)
              have HKa6 : Hid (Kp [] w6 (w6.alloc (.cells #[.int .i64 0, .slice none 0 0, .int .i64 0, .slice none 0 0, .slice none 0 0] 72))) := (Kp.refl [] _).alloc _
              have HIl : Hid ((il : Int) = (S5.its.length : Int)) := hide (by rw [hil])
              clear HP K6 HL5 hil
              go_wp2_with (refine wpList_store_flat rfl 72 (.tmp 10) (.tmp 57) rfl w6.heap.size 0 rfl _ _ [.int .i64 0, .slice none 0 0, .int .i64 0, .slice none 0 0, .slice none 0 0] G6 rfl (by simp) Tryz.sgdSize (by simp [Value.oneCell']) #[.int .i64 0, .slice none 0 0, .int .i64 0, .slice none 0 0, .slice none 0 0] rfl ?_; intro w7 G7 K7; refine Hid.out ?_)
              obtain ⟨gs, hgs⟩ : ∃ g, g = w6.heap.size := ⟨_, rfl⟩
              rw [← hgs] at G7 K7 ⊢
              have K67 : Kp [] w6 w7 := HKa6.out.then K7 (fun i hi => .inr (by simp at hi; omega))
              have HL7 := hide (HL6.out.on K67)
              have HG7 := hide G7
              have HZ := hide (usize_any HL7.out (il : Int) HIl.out)
              have HLs := hide (ulast_some HL7.out a b5 HLa5.out)
              clear G6 G7 K7 K67 HKa6 HL6 hgs
              refine hide ?_
              go_wp2_with fail
              refine HZ.out.mono ?_
              rintro ee w8 ⟨rfl, hw⟩
              subst w8
              clear HZ
              go_wp2_with fail
              refine HLs.out.mono ?_
              rintro ee w8 ⟨v8, rfl, A8, K8⟩
              obtain ⟨br, kr, dr, bp, kp, dp, bq', kq, dq, rfl, -, -⟩ := A8.v.shape
              have hsn : (sgU S5.seed S5.its (a, b5)).n = (a : Int) := rfl
              have hsi : (sgU S5.seed S5.its (a, b5)).i = (b5 : Int) := rfl
              rw [hsn, hsi]
              have HL8 := hide (HL7.out.on K8)
              have HG8 := hide (K8.heap HG7.out (by simp))
              have G8 := heap_alloc_new w8 (.cells #[.int .i64 0, .slice none 0 0, .int .i64 0, .slice none 0 0, .slice none 0 0] 72)
              have HKa8 : Hid (Kp [] w8 (w8.alloc (.cells #[.int .i64 0, .slice none 0 0, .int .i64 0, .slice none 0 0, .slice none 0 0] 72))) := (Kp.refl [] _).alloc _
              clear HLs A8 K8 hsn hsi HL7 HG7
              go_wp2_with (refine wpList_store_flat rfl 72 (.tmp 12) (.tmp 70) rfl w8.heap.size 0 rfl _ _ [.int .i64 (a : Int), .slice br kr dr, .int .i64 (b5 : Int), .slice bp kp dp, .slice bq' kq dq] G8 rfl (by simp) Tryz.sgdSize (by simp [Value.oneCell']) #[.int .i64 (a : Int), .slice br kr dr, .int .i64 (b5 : Int), .slice bp kp dp, .slice bq' kq dq] rfl ?_; intro w9 G9 K9; refine Hid.out ?_)
              obtain ⟨g9, hg9⟩ : ∃ g, g = w8.heap.size := ⟨_, rfl⟩
              rw [← hg9] at G9 K9 ⊢
              have K89 : Kp [] w8 w9 := HKa8.out.then K9 (fun i hi => .inr (by simp at hi; omega))
              have HL9 := hide (HL8.out.on K89)
              have G59 := K89.heap HG8.out (by simp)
              have x3 : w9.cell? ⟨gs, 3, none⟩ = some (.slice none 0 0) := by rw [cell_of_row w9 gs 3 _ _ _ G59]; rfl
              have y0 : w9.cell? ⟨g9, 0, none⟩ = some (.int .i64 (a : Int)) := by rw [cell_of_row w9 g9 0 _ _ _ G9]; rfl
              clear G8 G9 K9 K89 HKa8 HL8 HG8 hg9 G59
              refine hide ?_
              go_wp2_with fail
              go_roundw
              case rel =>
                exact ⟨k + 1, by omega, by omega, by go_num, (a : Int), 16, rfl, rfl, S5, f5, 16, HL9.out, HU5.out, HN16.out, rfl, HSd5.out, HIt5.out, HLe5.out, .inr ⟨a, HLa5.out.trans (by rw [HB5.out]), rfl, by omega⟩⟩
              case measure => simp [intOf]; omega
            · have HNlt : Hid (S5.n < 16) := hide (by rw [HN5.out]; omega)
              rw [← hlae] at HNeL ⊢
              clear hla5 hlae hsame hu1
              have HP := hide (upub_up HL5.out HG.out _ _ HU5.out HNlt.out HNe.out)
              go_wp2_with fail
              refine HP.out.mono ?_
              rintro ee w6 ⟨v6, rfl, S6, f6, L6, T6, U6, hits6, hn6, hsd6, hla6, b6, -, -, -, A6⟩
              obtain ⟨br, kr, dr, bp, kp, dp, bq', kq, dq, rfl, -, -⟩ := A6.v.shape
              obtain ⟨il, hil⟩ : ∃ n, n = S5.its.length := ⟨_, rfl⟩
              obtain ⟨ui, hui⟩ : ∃ n, n = S5.n := ⟨_, rfl⟩
              obtain ⟨sg, hsg⟩ : ∃ x, x = sgU S5.seed S5.its (S5.its.length, S5.n) := ⟨_, rfl⟩
              have hV6 := A6.v
              rw [← hsg] at hV6
              have hsn : sg.n = (il : Int) := by rw [hsg, hil]; rfl
              have hsi : sg.i = (ui : Int) := by rw [hsg, hui]; rfl
              rw [← hsg, hsn, hsi] at ⊢
              rw [hsn, hsi] at hV6
              have HV6 := hide hV6
              have HSG : Hid (sg = sgU S6.seed S6.its (il, ui)) := hide (by rw [hsg, hsd6, hits6, hil, hui])
              have HIl : Hid ((il : Int) = (S6.its.length : Int)) := hide (by rw [hil, hits6])
              have HUi : Hid (ui < 16) := hide (by rw [hui]; exact HNlt.out)
              have HN6 : Hid (S6.n = ui + 1) := hide (by rw [hn6, hui])
              have HSd6 : Hid (S6.seed = seedX 1) := hide (by rw [hsd6]; exact HSd5.out)
              have HIt6 : Hid (∀ x ∈ S6.its, ∃ j : Nat, j < k + 1 ∧ x = [(j : Int)]) := hide (by rw [hits6]; exact HIt5.out)
              have HLe6 : Hid (S6.its.length ≤ k + 1) := hide (by rw [hits6]; exact HLe5.out)
              have HLa6 : Hid (S6.la = some (il, ui)) := hide (by rw [hla6, hil, hui])
              have HU6 := hide U6
              have HL6 := hide L6
              have G6 := heap_alloc_new w6 (.cells #[.int .i64 0, .slice none 0 0, .int .i64 0, .slice none 0 0, .slice none 0 0] 72)
              have HKa6 : Hid (Kp [] w6 (w6.alloc (.cells #[.int .i64 0, .slice none 0 0, .int .i64 0, .slice none 0 0, .slice none 0 0] 72))) := (Kp.refl [] _).alloc _
              have hunew : (ui : Int) = u := by rw [hui]; exact congrArg (Nat.cast) HN5.out
              have hu16 : ¬ (u : Int) = 16 := by have := HUi.out; omega
              have hu16' : ((u : Int) == 16) = false := by simpa using hu16
              have hilne : ¬ (il : Int) = la := HNeL.out il hil
              have hilne' : ((il : Int) == la) = false := by simpa using hilne
              have hwu : IntKind.i64.wrap ((u : Int) + 1) = (u : Int) + 1 := by have := HUi.out; simp [IntKind.wrap, IntKind.signed, IntKind.bits]; omega
              have HUn := hide hunew
              clear HP T6 U6 hits6 hn6 hsd6 hla6 A6 hV6 hsg hsn hsi L6 hil hui HL5 hunew
              go_wp2_with (refine wpList_store_flat rfl 72 (.tmp 10) (.tmp 57) rfl w6.heap.size 0 rfl _ _ [.int .i64 (il : Int), .slice br kr dr, .int .i64 (ui : Int), .slice bp kp dp, .slice bq' kq dq] G6 rfl (by simp) Tryz.sgdSize (by simp [Value.oneCell']) #[.int .i64 (il : Int), .slice br kr dr, .int .i64 (ui : Int), .slice bp kp dp, .slice bq' kq dq] rfl ?_; intro w7 G7 K7; refine Hid.out ?_)
              obtain ⟨gs, hgs⟩ : ∃ g, g = w6.heap.size := ⟨_, rfl⟩
              rw [← hgs] at G7 K7 ⊢
              have K67 : Kp [] w6 w7 := HKa6.out.then K7 (fun i hi => .inr (by simp at hi; omega))
              have HL7 := hide (HL6.out.on K67)
              have HV7 := hide (HV6.out.kept K67)
              have HG7 := hide G7
              have HZ := hide (usize_any HL7.out (il : Int) HIl.out)
              clear G6 G7 K7 K67 HKa6 HV6 HL6 hgs
              refine hide ?_
              go_wp2_with fail
              refine HZ.out.mono ?_
              rintro ee w8 ⟨rfl, hw⟩
              subst w8
              go_wp2_with fail
              refine HZ.out.mono ?_
              rintro ee w8 ⟨rfl, hw⟩
              subst w8
              go_wp2_with fail
              refine HZ.out.mono ?_
              rintro ee w8 ⟨rfl, hw⟩
              subst w8
              clear HZ
              rw [← HUn.out]
              have HD7 : Hid (∀ w', Kp [] w7.drew w' → Kp [] w7 w') := fun w' k' => (kp_drew w7).trans k'
              have HGs : Hid (∀ w', Kp [] w7.drew w' → w'.heap[gs]? = some (.cells #[.int .i64 (il : Int), .slice br kr dr, .int .i64 (ui : Int), .slice bp kp dp, .slice bq' kq dq] 72 (0, 0))) := fun w' k' => (HD7.out w' k').heap HG7.out (by simp)
              have HLw : Hid (∀ w', Kp [] w7.drew w' → Lg w w' l pd pk S6 f6) := fun w' k' => HL7.out.on (HD7.out w' k')
              have HVw : Hid (∀ w', Kp [] w7.drew w' → SgV w' (.agg #[.int .i64 (il : Int), .slice br kr dr, .int .i64 (ui : Int), .slice bp kp dp, .slice bq' kq dq]) sg) := fun w' k' => HV7.out.kept (HD7.out w' k')
              have HGw : Hid (∀ w', Kp [] w7.drew w' → Gl w') := fun w' k' => HG.out.kept (HL7.out.kp.trans (HD7.out w' k')) (by simp)
              obtain ⟨P, hP⟩ : ∃ P, P = topP S6.seed := ⟨_, rfl⟩
              have HPe := hide hP
              have HPb : Hid (Bs P) := hide (by rw [hP]; exact (topP_ok _).2)
              have HVe : Hid (true = sg.ver P) := hide (by
                rw [HSG.out, hP]
                unfold sgU
                have h1 := HIl.out
                have h2 := HL7.out.few
                exact (sgnC_ver S6.seed ui HUi.out _ _ (by rw [rgtC_iff, rtU_len]; exact ⟨⟨by omega, by omega⟩, rfl⟩)).symm)
              have HSi : Hid (-9223372036854775808 ≤ sg.i ∧ sg.i ≤ 9223372036854775807) := hide (by
                have : sg.i = (ui : Int) := by rw [HSG.out]; rfl
                have := HUi.out
                omega)
              obtain ⟨us, hus⟩ : ∃ u : Int, u = (ui : Int) + 1 := ⟨_, rfl⟩
              obtain ⟨kl, hkl⟩ : ∃ k : Int, k = 16 - us := ⟨_, rfl⟩
              have HSub : Hid (IntKind.i64.wrap (us - 1) = (ui : Int)) := hide (by have := HUi.out; simp [IntKind.wrap, IntKind.signed, IntKind.bits]; omega)
              have HKl : Hid (IntKind.i64.wrap (16 - us) = kl) := hide (by have := HUi.out; simp [IntKind.wrap, IntKind.signed, IntKind.bits]; omega)
              have HKl2 : Hid (kl = 16 - (S6.n : Int)) := hide (by rw [hkl, hus, HN6.out]; omega)
              rw [← hus]
              have HUs := hide hus
              clear hP hus hkl
              go_wp2_with fail
              refine region_grow Tryz.mixed [Is (.int .i64 0), Is (.bool false), Is (.bool false), Is (.pointer (some ⟨gs, 0, none⟩)), Is (.pointer (some ⟨gs, 0, none⟩)), Is (.int .i64 (il : Int)), Is (.pointer (some ⟨l, 0, none⟩)), Is (.int .i64 (il : Int)), Is (.bool false), Is (.bool false), Is (.bool false), Is (.pointer (some ⟨gs, 2, none⟩)), Is (.pointer (some ⟨gs, 2, none⟩)), Is (.int .i64 (ui : Int)), Is (.int .i64 us), Is (.int .i64 (ui : Int)), Is (.bool false), Is (.bool false), Is (.bool false), Is (.pointer (some ⟨l, 0, none⟩)), Is (.int .i64 kl), Is (.int .i64 us), Is (.int .i64 kl), Is (.bool false), Is (.bool false), Is (.bool false), Is (.pointer (some ⟨l, 0, none⟩)), SlT (P), Is (.agg #[.int .i64 (il : Int), .slice br kr dr, .int .i64 (ui : Int), .slice bp kp dp, .slice bq' kq dq]), Is (.bool true), Is (.bool false), Is (.bool false)] [[(11, none)], [(100, some 0)], [(101, some 1)], [(10, none), (102, some 2)], [(103, some 3), (102, some 2)], [(104, some 4), (102, some 2)], [(3, none), (102, some 2)], [(106, some 6), (102, some 2)], [(105, some 5), (107, some 7), (102, some 2)], [(102, some 2), (108, some 8)], [(109, some 9)], [(10, none), (110, some 10)], [(111, some 11), (110, some 10)], [(112, some 12), (110, some 10)], [(6, none), (110, some 10)], [(114, some 14), (110, some 10)], [(113, some 13), (115, some 15), (110, some 10)], [(110, some 10), (116, some 16)], [(117, some 17)], [(3, none), (118, some 18)], [(119, some 19), (118, some 18)], [(6, none), (118, some 18)], [(121, some 21), (118, some 18)], [(120, some 20), (122, some 22), (118, some 18)], [(118, some 18), (123, some 23)], [(124, some 24)], [(3, none), (125, some 25)], [(126, some 26), (125, some 25)], [(10, none), (125, some 25)], [(127, some 27), (128, some 28), (125, some 25)], [(129, some 29), (125, some 25)], [(125, some 25), (130, some 30)]] (by kernel_rfl) ?_ ?_ ?_
              · simp only [List.mem_cons, List.not_mem_nil, or_false]
                intro R hR
                rcases hR with rfl | rfl | rfl | rfl | rfl | rfl | rfl | rfl | rfl | rfl | rfl | rfl | rfl | rfl | rfl | rfl | rfl | rfl | rfl | rfl | rfl | rfl | rfl | rfl | rfl | rfl | rfl | rfl | rfl | rfl | rfl | rfl <;> first | exact stable_is _ | exact stable_sl _
              · refine steps_cons (fun a w hk hn => ?_) ?_
                · have h11 : a.eval (.tmp 11) = .int .i64 0 := hn.1
                  clear hn
                  refine wants_plain rfl ?_
                  exact grown_move (.tmp 11) rfl h11
                refine steps_cons (fun a w hk hn => ?_) ?_
                · have h100 : a.eval (.tmp 100) = .int .i64 0 := hn.1
                  clear hn
                  refine wants_plain rfl ?_
                  refine grown_run (v := .bool false) ?_ (Kp.refl _ _) rfl
                  obtain ⟨ρ, hρ, hc, hf, hg⟩ := eval_is a
                  rw [hρ] at h100 ⊢
                  simp [go_sem, hc, h100]
                refine steps_cons (fun a w hk hn => ?_) ?_
                · have h101 : a.eval (.tmp 101) = .bool false := hn.1
                  clear hn
                  refine wants_plain rfl ?_
                  exact grown_move (.tmp 101) rfl h101
                refine steps_cons (fun a w hk hn => ?_) ?_
                · have h10 : a.eval (.tmp 10) = .pointer (some ⟨gs, 0, none⟩) := hn.1
                  have h102 : a.eval (.tmp 102) = .bool false := hn.2.1
                  clear hn
                  refine wants_guard (d := 102) rfl rfl h102 ?_
                  refine grown_run (v := .pointer (some ⟨gs, 0, none⟩)) ?_ (Kp.refl _ _) rfl
                  obtain ⟨ρ, hρ, hc, hf, hg⟩ := eval_is a
                  rw [hρ] at h10 ⊢
                  simp [go_sem, h10]
                refine steps_cons (fun a w hk hn => ?_) ?_
                · have h103 : a.eval (.tmp 103) = .pointer (some ⟨gs, 0, none⟩) := hn.1
                  have h102 : a.eval (.tmp 102) = .bool false := hn.2.1
                  clear hn
                  refine wants_guard (d := 102) rfl rfl h102 ?_
                  refine grown_run (v := .pointer (some ⟨gs, 0, none⟩)) ?_ (Kp.refl _ _) rfl
                  obtain ⟨ρ, hρ, hc, hf, hg⟩ := eval_is a
                  rw [hρ] at h103 ⊢
                  simp [go_sem, h103]
                refine steps_cons (fun a w hk hn => ?_) ?_
                · have h104 : a.eval (.tmp 104) = .pointer (some ⟨gs, 0, none⟩) := hn.1
                  have h102 : a.eval (.tmp 102) = .bool false := hn.2.1
                  clear hn
                  refine wants_guard (d := 102) rfl rfl h102 ?_
                  refine grown_run (v := .int .i64 (il : Int)) ?_ (Kp.refl _ _) rfl
                  have hcell : w.cell? ⟨gs, 0, none⟩ = some (.int .i64 (il : Int)) := by rw [cell_of_row w gs 0 _ _ _ (HGs.out w hk)]; rfl
                  obtain ⟨ρ, hρ, hc, hf, hg⟩ := eval_is a
                  rw [hρ] at h104 ⊢
                  simp [go_sem, h104, hcell]
                refine steps_cons (fun a w hk hn => ?_) ?_
                · have h3 : a.eval (.tmp 3) = .pointer (some ⟨l, 0, none⟩) := hn.1
                  have h102 : a.eval (.tmp 102) = .bool false := hn.2.1
                  clear hn
                  refine wants_guard (d := 102) rfl rfl h102 ?_
                  exact grown_move (.tmp 3) rfl h3
                refine steps_cons (fun a w hk hn => ?_) ?_
                · have h106 : a.eval (.tmp 106) = .pointer (some ⟨l, 0, none⟩) := hn.1
                  have h102 : a.eval (.tmp 102) = .bool false := hn.2.1
                  clear hn
                  refine wants_guard (d := 102) rfl rfl h102 ?_
                  refine grown_call (f := 16) rfl Tryz.func16 (by kernel_rfl) (by kernel_rfl) ?_
                  simp only [List.map_toArray, List.map_cons, List.map_nil, h106]
                  refine (usize_any (HLw.out w hk) (il : Int) HIl.out).mono ?_
                  rintro e w' ⟨rfl, rfl⟩
                  exact ⟨_, rfl, Kp.refl _ _, rfl⟩
                refine steps_cons (fun a w hk hn => ?_) ?_
                · have h105 : a.eval (.tmp 105) = .int .i64 (il : Int) := hn.1
                  have h107 : a.eval (.tmp 107) = .int .i64 (il : Int) := hn.2.1
                  have h102 : a.eval (.tmp 102) = .bool false := hn.2.2.1
                  clear hn
                  refine wants_guard (d := 102) rfl rfl h102 ?_
                  refine grown_run (v := .bool false) ?_ (Kp.refl _ _) rfl
                  obtain ⟨ρ, hρ, hc, hf, hg⟩ := eval_is a
                  rw [hρ] at h105 h107 ⊢
                  simp [go_sem, h105, h107]
                refine steps_cons (fun a w hk hn => ?_) ?_
                · have h102 : a.eval (.tmp 102) = .bool false := hn.1
                  have h108 : a.eval (.tmp 108) = .bool false := hn.2.1
                  clear hn
                  refine wants_plain rfl ?_
                  exact grown_pick _ _ _ false rfl h102 h108
                refine steps_cons (fun a w hk hn => ?_) ?_
                · have h109 : a.eval (.tmp 109) = .bool false := hn.1
                  clear hn
                  refine wants_plain rfl ?_
                  exact grown_move (.tmp 109) rfl h109
                refine steps_cons (fun a w hk hn => ?_) ?_
                · have h10 : a.eval (.tmp 10) = .pointer (some ⟨gs, 0, none⟩) := hn.1
                  have h110 : a.eval (.tmp 110) = .bool false := hn.2.1
                  clear hn
                  refine wants_guard (d := 110) rfl rfl h110 ?_
                  refine grown_run (v := .pointer (some ⟨gs, 2, none⟩)) ?_ (Kp.refl _ _) rfl
                  obtain ⟨ρ, hρ, hc, hf, hg⟩ := eval_is a
                  rw [hρ] at h10 ⊢
                  simp [go_sem, h10]
                refine steps_cons (fun a w hk hn => ?_) ?_
                · have h111 : a.eval (.tmp 111) = .pointer (some ⟨gs, 2, none⟩) := hn.1
                  have h110 : a.eval (.tmp 110) = .bool false := hn.2.1
                  clear hn
                  refine wants_guard (d := 110) rfl rfl h110 ?_
                  refine grown_run (v := .pointer (some ⟨gs, 2, none⟩)) ?_ (Kp.refl _ _) rfl
                  obtain ⟨ρ, hρ, hc, hf, hg⟩ := eval_is a
                  rw [hρ] at h111 ⊢
                  simp [go_sem, h111]
                refine steps_cons (fun a w hk hn => ?_) ?_
                · have h112 : a.eval (.tmp 112) = .pointer (some ⟨gs, 2, none⟩) := hn.1
                  have h110 : a.eval (.tmp 110) = .bool false := hn.2.1
                  clear hn
                  refine wants_guard (d := 110) rfl rfl h110 ?_
                  refine grown_run (v := .int .i64 (ui : Int)) ?_ (Kp.refl _ _) rfl
                  have hcell : w.cell? ⟨gs, 2, none⟩ = some (.int .i64 (ui : Int)) := by rw [cell_of_row w gs 2 _ _ _ (HGs.out w hk)]; rfl
                  obtain ⟨ρ, hρ, hc, hf, hg⟩ := eval_is a
                  rw [hρ] at h112 ⊢
                  simp [go_sem, h112, hcell]
                refine steps_cons (fun a w hk hn => ?_) ?_
                · have h6 : a.eval (.tmp 6) = .int .i64 us := hn.1
                  have h110 : a.eval (.tmp 110) = .bool false := hn.2.1
                  clear hn
                  refine wants_guard (d := 110) rfl rfl h110 ?_
                  exact grown_move (.tmp 6) rfl h6
                refine steps_cons (fun a w hk hn => ?_) ?_
                · have h114 : a.eval (.tmp 114) = .int .i64 us := hn.1
                  have h110 : a.eval (.tmp 110) = .bool false := hn.2.1
                  clear hn
                  refine wants_guard (d := 110) rfl rfl h110 ?_
                  refine grown_run (v := .int .i64 (ui : Int)) ?_ (Kp.refl _ _) rfl
                  obtain ⟨ρ, hρ, hc, hf, hg⟩ := eval_is a
                  rw [hρ] at h114 ⊢
                  simp [go_sem, hc, h114, HSub.out]
                refine steps_cons (fun a w hk hn => ?_) ?_
                · have h113 : a.eval (.tmp 113) = .int .i64 (ui : Int) := hn.1
                  have h115 : a.eval (.tmp 115) = .int .i64 (ui : Int) := hn.2.1
                  have h110 : a.eval (.tmp 110) = .bool false := hn.2.2.1
                  clear hn
                  refine wants_guard (d := 110) rfl rfl h110 ?_
                  refine grown_run (v := .bool false) ?_ (Kp.refl _ _) rfl
                  obtain ⟨ρ, hρ, hc, hf, hg⟩ := eval_is a
                  rw [hρ] at h113 h115 ⊢
                  simp [go_sem, h113, h115]
                refine steps_cons (fun a w hk hn => ?_) ?_
                · have h110 : a.eval (.tmp 110) = .bool false := hn.1
                  have h116 : a.eval (.tmp 116) = .bool false := hn.2.1
                  clear hn
                  refine wants_plain rfl ?_
                  exact grown_pick _ _ _ false rfl h110 h116
                refine steps_cons (fun a w hk hn => ?_) ?_
                · have h117 : a.eval (.tmp 117) = .bool false := hn.1
                  clear hn
                  refine wants_plain rfl ?_
                  exact grown_move (.tmp 117) rfl h117
                refine steps_cons (fun a w hk hn => ?_) ?_
                · have h3 : a.eval (.tmp 3) = .pointer (some ⟨l, 0, none⟩) := hn.1
                  have h118 : a.eval (.tmp 118) = .bool false := hn.2.1
                  clear hn
                  refine wants_guard (d := 118) rfl rfl h118 ?_
                  exact grown_move (.tmp 3) rfl h3
                refine steps_cons (fun a w hk hn => ?_) ?_
                · have h119 : a.eval (.tmp 119) = .pointer (some ⟨l, 0, none⟩) := hn.1
                  have h118 : a.eval (.tmp 118) = .bool false := hn.2.1
                  clear hn
                  refine wants_guard (d := 118) rfl rfl h118 ?_
                  refine grown_call (f := 35) rfl Tryz.func35 (by kernel_rfl) (by kernel_rfl) ?_
                  simp only [List.map_toArray, List.map_cons, List.map_nil, h119]
                  refine (ukeys_any (HLw.out w hk) kl HKl2.out).mono ?_
                  rintro e w' ⟨rfl, rfl⟩
                  exact ⟨_, rfl, Kp.refl _ _, rfl⟩
                refine steps_cons (fun a w hk hn => ?_) ?_
                · have h6 : a.eval (.tmp 6) = .int .i64 us := hn.1
                  have h118 : a.eval (.tmp 118) = .bool false := hn.2.1
                  clear hn
                  refine wants_guard (d := 118) rfl rfl h118 ?_
                  exact grown_move (.tmp 6) rfl h6
                refine steps_cons (fun a w hk hn => ?_) ?_
                · have h121 : a.eval (.tmp 121) = .int .i64 us := hn.1
                  have h118 : a.eval (.tmp 118) = .bool false := hn.2.1
                  clear hn
                  refine wants_guard (d := 118) rfl rfl h118 ?_
                  refine grown_run (v := .int .i64 kl) ?_ (Kp.refl _ _) rfl
                  obtain ⟨ρ, hρ, hc, hf, hg⟩ := eval_is a
                  rw [hρ] at h121 ⊢
                  simp [go_sem, hc, h121, HKl.out]
                refine steps_cons (fun a w hk hn => ?_) ?_
                · have h120 : a.eval (.tmp 120) = .int .i64 kl := hn.1
                  have h122 : a.eval (.tmp 122) = .int .i64 kl := hn.2.1
                  have h118 : a.eval (.tmp 118) = .bool false := hn.2.2.1
                  clear hn
                  refine wants_guard (d := 118) rfl rfl h118 ?_
                  refine grown_run (v := .bool false) ?_ (Kp.refl _ _) rfl
                  obtain ⟨ρ, hρ, hc, hf, hg⟩ := eval_is a
                  rw [hρ] at h120 h122 ⊢
                  simp [go_sem, h120, h122]
                refine steps_cons (fun a w hk hn => ?_) ?_
                · have h118 : a.eval (.tmp 118) = .bool false := hn.1
                  have h123 : a.eval (.tmp 123) = .bool false := hn.2.1
                  clear hn
                  refine wants_plain rfl ?_
                  exact grown_pick _ _ _ false rfl h118 h123
                refine steps_cons (fun a w hk hn => ?_) ?_
                · have h124 : a.eval (.tmp 124) = .bool false := hn.1
                  clear hn
                  refine wants_plain rfl ?_
                  exact grown_move (.tmp 124) rfl h124
                refine steps_cons (fun a w hk hn => ?_) ?_
                · have h3 : a.eval (.tmp 3) = .pointer (some ⟨l, 0, none⟩) := hn.1
                  have h125 : a.eval (.tmp 125) = .bool false := hn.2.1
                  clear hn
                  refine wants_guard (d := 125) rfl rfl h125 ?_
                  exact grown_move (.tmp 3) rfl h3
                refine steps_cons (fun a w hk hn => ?_) ?_
                · have h126 : a.eval (.tmp 126) = .pointer (some ⟨l, 0, none⟩) := hn.1
                  have h125 : a.eval (.tmp 125) = .bool false := hn.2.1
                  clear hn
                  refine wants_guard (d := 125) rfl rfl h125 ?_
                  refine grown_call (f := 39) rfl Tryz.func39 (by kernel_rfl) (by kernel_rfl) ?_
                  simp only [List.map_toArray, List.map_cons, List.map_nil, h126]
                  refine (upublic_any (HLw.out w hk) P HPe.out (HGw.out w hk)).mono ?_
                  rintro e w' ⟨ao, m, c, rfl, R, K⟩
                  exact ⟨_, rfl, K, R⟩
                refine steps_cons (fun a w hk hn => ?_) ?_
                · have h10 : a.eval (.tmp 10) = .pointer (some ⟨gs, 0, none⟩) := hn.1
                  have h125 : a.eval (.tmp 125) = .bool false := hn.2.1
                  clear hn
                  refine wants_guard (d := 125) rfl rfl h125 ?_
                  exact grown_loadf 72 (.tmp 10) rfl gs 0 h10 _ _ _ _ (HGs.out w hk) [.int .i64 (il : Int), .slice br kr dr, .int .i64 (ui : Int), .slice bp kp dp, .slice bq' kq dq] (flat_in rfl) Tryz.underlying72 rfl Tryz.sgdSize rfl
                refine steps_cons (fun a w hk hn => ?_) ?_
                · have h127 : Sl w (a.eval (.tmp 127)) (P) := hn.1
                  have h128 : a.eval (.tmp 128) = .agg #[.int .i64 (il : Int), .slice br kr dr, .int .i64 (ui : Int), .slice bp kp dp, .slice bq' kq dq] := hn.2.1
                  have h125 : a.eval (.tmp 125) = .bool false := hn.2.2.1
                  clear hn
                  refine wants_guard (d := 125) rfl rfl h125 ?_
                  refine grown_call (f := 38) rfl Tryz.func38 (by kernel_rfl) (by kernel_rfl) ?_
                  simp only [List.map_toArray, List.map_cons, List.map_nil, h128]
                  refine (rckverify_any _ P _ sg true HVe.out w h127 HPb.out (HVw.out w hk) HSi.out).mono ?_
                  rintro e w' ⟨rfl, K⟩
                  exact ⟨_, rfl, K, rfl⟩
                refine steps_cons (fun a w hk hn => ?_) ?_
                · have h129 : a.eval (.tmp 129) = .bool true := hn.1
                  have h125 : a.eval (.tmp 125) = .bool false := hn.2.1
                  clear hn
                  refine wants_guard (d := 125) rfl rfl h125 ?_
                  refine grown_run (v := .bool false) ?_ (Kp.refl _ _) rfl
                  obtain ⟨ρ, hρ, hc, hf, hg⟩ := eval_is a
                  rw [hρ] at h129 ⊢
                  simp [go_sem, h129]
                refine steps_cons (fun a w hk hn => ?_) ?_
                · have h125 : a.eval (.tmp 125) = .bool false := hn.1
                  have h130 : a.eval (.tmp 130) = .bool false := hn.2.1
                  clear hn
                  refine wants_plain rfl ?_
                  exact grown_pick _ _ _ false rfl h125 h130
                exact trivial
              intro W1 hkW1
              rintro _ rfl
              rintro _ rfl
              rintro _ rfl
              rintro _ rfl
              rintro _ rfl
              rintro _ rfl
              rintro _ rfl
              rintro _ rfl
              rintro _ rfl
              rintro _ rfl
              rintro _ rfl
              rintro _ rfl
              rintro _ rfl
              rintro _ rfl
              rintro _ rfl
              rintro _ rfl
              rintro _ rfl
              rintro _ rfl
              rintro _ rfl
              rintro _ rfl
              rintro _ rfl
              rintro _ rfl
              rintro _ rfl
              rintro _ rfl
              rintro _ rfl
              rintro _ rfl
              rintro _ rfl
              intro v127 h127
              rintro _ rfl
              rintro _ rfl
              rintro _ rfl
              rintro _ rfl
              refine fin_nil ?_
              simp only [Act.put, List.set_cons_zero, List.set_cons_succ, List.setIfInBounds_toArray]
              have K71 := HD7.out W1 hkW1
              have HL8 := hide (HL7.out.on K71)
              clear hkW1 K71 h127
              go_wp2_with fail
              go_roundw
              case rel =>
                refine ⟨k + 1, by omega, by omega, by go_num, (il : Int), us, rfl, rfl, S6, f6, ui + 1, HL8.out, HU6.out, HN6.out, by rw [HUs.out]; omega, HSd6.out, HIt6.out, HLe6.out, .inr ⟨il, by rw [HLa6.out]; rfl, rfl, by omega⟩⟩
              case measure => simp [intOf]; omega
    · have HKn := hide (uknown_any wr (HG.out.kept HLg.out.kp (by simp)))
      have HK := hide HLg.out.kp
      by_cases hl1 : k < N
      · have hl1' : (k : Int) < (N : Int) := by omega
        have hl2' : ¬ (k : Int) < 22 := by omega
        have hd1 : decide ((k : Int) < (N : Int)) = true := decide_eq_true hl1'
        have hd2 : decide ((k : Int) < 22) = false := decide_eq_false hl2'
        clear hla
        go_wp2_with fail
        refine HKn.out.mono ?_
        rintro ee w9 ⟨rfl, K9⟩
        have HK9 := hide (HK.out.trans K9)
        clear HKn K9
        go_wp2_with fail
        go_ret
        exact ⟨rfl, HK9.out.below (Nat.le_refl _) (by simp)⟩
      · have hl1' : ¬ (k : Int) < (N : Int) := by omega
        have hd1 : decide ((k : Int) < (N : Int)) = false := decide_eq_false hl1'
        clear hla
        go_wp2_with fail
        refine HKn.out.mono ?_
        rintro ee w9 ⟨rfl, K9⟩
        have HK9 := hide (HK.out.trans K9)
        clear HKn K9
        go_wp2_with fail
        go_ret
        exact ⟨rfl, HK9.out.below (Nat.le_refl _) (by simp)⟩
set_option maxRecDepth 100000 in
theorem lifted (os : Os) (started : os.Started) (H : Type) (enc : TypeId × Value → H) :
    ReturnsInHanded {} Tryz.checked os 8 .any (fun w args => (Rows.ledgerPublishesSpec.pre enc Tryz.prog Tryz.f8 [] false w args ∧ laidMetH Tryz.prog laid1 w) ∧ sizedMet enc Tryz.prog Tryz.f8 (OpenSpec.ofChange Rows.ledgerPublishesSpec) false w args) (Rows.ledgerPublishesSpec.post enc Tryz.prog Tryz.f8 false true false false) := by
  refine returnsInHanded_of_change_and (C := Tryz.checked) (X := fun w _ => laidMetH Tryz.prog laid1 w) (fun _ _ _ hh h => h.of_heap hh) own started (by kernel_rfl) Tryz.func8
    (ChangeSpec.witness_shaped (enc := enc) (C := Tryz.checked) (os := os) (X := fun w _ => laidMetH Tryz.prog laid1 w) false (World.doorLaid Tryz.prog 400 os) #[.slice none 0 0] 8 rfl (World.shaped_of_RefB (by kernel_rfl) (by kernel_rfl)) (by kernel_rfl) (by kernel_rfl) (by kernel_rfl) (door_met os _)) ?_
  intro W base args ds gs before hval0 hW hcnd hsz0 hL _
  have hG := gl_of_laid hL
  have hval : ∀ (j : Nat) t v, Tryz.f8.params[j]? = some t → args[j]? = some v → Value.okWide Tryz.prog W .any base t v := hval0
  have hW' := hW
  obtain ⟨p, q, hA0, hV, rfl, hfz, hnd⟩ := hW
  have hA : DataW.TrodAll enc Tryz.prog W 0 (fun _ => true) true Tryz.f8.params.toList args.toList ds p := hA0
  rw [Tryz.params8] at hA hval
  obtain ⟨v0, vs0, d0, ds0, p0, q0, hargs, rfl, rfl, h0, r0⟩ := trodAll_cons hA
  obtain ⟨rfl, rfl, rfl⟩ := trodAll_nil r0
  obtain rfl : args = #[v0] := by cases args; simp_all
  obtain ⟨rfl, rfl⟩ := trodVars_none hV
  obtain ⟨a0, len0, cap0, rfl⟩ := okWide_slice Tryz.underlying35 (hval 0 35 v0 rfl rfl)
  have k0 := h0
  have lt0 : ∀ x ∈ p0, x.block < W.heap.size := by obtain ⟨m, hm⟩ := k0; exact DataW.trod_lt m _ _ _ hm
  obtain ⟨l0, s0⟩ : ∃ l, Ints W (.slice a0 len0 cap0) l := by
    obtain ⟨fuel, hf⟩ := h0
    exact ints_of_trod (by simpa [Value.cells] using hf)
  clear hA0 hval0
  refine (walk (.slice a0 len0 cap0) l0 W hG s0).mono fun e W' ⟨he, bel⟩ => ?_
  subst he
  exact ⟨_, rfl, _, _, _, [], _, [], hW', trodAll_mk1 (shut_bool Tryz.underlying4 _), (trodAll_cons_mk (Below.trod laidOut (by kernel_rfl) (of_decide_eq_true (by kernel_rfl)) k0 bel lt0) trodAll_mk0), rfl, bel.frame _, fun h => by cases h⟩
theorem over : Rows.ledgerPublishesRow.holds Tryz.pinned (OpenSpec.ofChange Rows.ledgerPublishesSpec) :=
  OpenClaim.holds_of_wide 8 Tryz.f8 rfl rfl rfl rfl rfl rfl rfl ⟨rfl, rfl, rfl, rfl, rfl⟩ rfl rfl rfl rfl rfl (by kernel_rfl) Tryz.func8 (by kernel_rfl)
    (of_decide_eq_true (by kernel_rfl)) (by unfold Func.isWrapper; first | (rw [if_pos (by decide +kernel)]; kernel_rfl) | (rw [if_neg (by decide +kernel)]; exact ⟨rfl, rfl⟩))
    (fun os started H enc _ => lifted os started H enc)
end Go.Proofs.YtillhpgdlmeajaaGreatDoor.ledgerPublishes
namespace Go.Proofs.YtillhpgdlmeajaaGreatDoor
/-- The given statement: the tied card. -/
theorem LedgerPublishes_holds : Rows.LedgerPublishesCardSaid :=
  Claim7.holds_tied_plain_at .later [] [.data] true Rows.ledgerPublishesCard.stood.harness false
    ledgerPublishes.over (fun _ h => by cases h) (by kernel_rfl) (fun _ h => by cases h) ledgerPublishes_row_tie rfl ⟨rfl, rfl⟩ (by kernel_rfl) rfl
    (fun f fn hf hfn => by
      obtain rfl : f = 8 := Option.some.inj ((show Tryz.prog.funcNamed "broadsheet/broadsheetlaw15.LedgerPublishes" = some 8 by kernel_rfl).symm.trans hf) |>.symm
      obtain rfl : fn = Tryz.f8 := (Option.some.inj (Tryz.func8.symm.trans hfn)).symm
      exact ⟨by kernel_rfl, fun j t ht => by
        rw [Tryz.params8] at ht
        have hm : t ∈ ([35] : List TypeId) := by simpa using Array.mem_of_getElem? ht
        have hall : (([35] : List TypeId).all fun u => !Tryz.prog.wantsStandIn u) = true := by kernel_rfl
        exact (show Tryz.prog.wantsStandIn t = false by simpa using List.all_eq_true.1 hall t hm)⟩)
    (by kernel_rfl)
#print axioms LedgerPublishes_holds
end Go.Proofs.YtillhpgdlmeajaaGreatDoor
