/-
  The statement LedgerGivenCardSaid: for all lists of bytes the law function LedgerGiven returns true and leaves its arguments as they were; the table hash.roundWords starts as the program's text lays it (tied). No other condition.
-/
import Derived.ArgAppend
import Derived.Deep.RegionHeld3
import Derived.Deep.Upon
import Derived.SevenTiedAt
import Derived.Test.YtillhpgdlmeajabGreatDoorCards
import Derived.Test.YtillhpgdlmeajabGreatDoorTie
import Derived.Test.YtillhpgdlmeajabGreatDoorQB1
import Derived.Test.YtillhpgdlmeajabGreatDoorQB3
import Derived.Test.YtillhpgdlmeajabGreatDoorQLedgerGiven1
import Derived.Test.YtillhpgdlmeajabGreatDoorQB2
import Derived.Test.YtillhpgdlmeajabGreatDoorQB4
import Derived.Test.YtillhpgdlmeajabGreatDoorQB5
import Derived.Test.YtillhpgdlmeajabGreatDoorQB6
import Derived.Test.YtillhpgdlmeajabGreatDoorQB7
namespace Go.Proofs.YtillhpgdlmeajabGreatDoor.ledgerGiven
open Go.ChangeShapes Go.WideShapes Go.ChangeAt Go.RowKit
open Go.Proofs.YtillhpgdlmeajabGreatDoor
set_option linter.unusedVariables false
def Inv (w : World) (l pd pk k : Nat) (va : Value) (ma : Nat) (wr : World) : Prop := ∃ S f la, Lg w wr l pd pk S f ∧ Up S (40 * k) k ∧ Al w wr f.tot va la ∧ la.map (·.2) = S.its ∧ ma = la.length ∧ S.its.length = k ∧ (∀ y ∈ S.its, (∃ j : Nat, j < k ∧ y.head? = some (j : Int)) ∧ y.length ≤ 21) ∧ S.n = 0 ∧ S.la = none
set_option maxRecDepth 100000 in
set_option maxHeartbeats 16000000 in
theorem walk (v : Value) (xss : List (Value × List Int)) (w : World) (hG : Gl w) (hL : Lists w v xss) :
    Calls Tryz.prog 5 #[v] w fun e w' => e = .returned (.bool true) ∧ Below w.heap.size w w' := by
  have HG := hide hG
  obtain ⟨al, cl, rfl, hlm, hcell⟩ := hL
  obtain ⟨N, hN⟩ : ∃ N, N = xss.length := ⟨_, rfl⟩
  have HC : Hid (∀ i (h : i < N), ∃ b off vx ys, al = some ⟨b, off, none⟩ ∧ w.cell? ⟨b, off + i, none⟩ = some vx ∧ Sl w vx ys ∧ Bs ys) := fun i hi => by
    obtain ⟨b, off, e, hc, hI, hB⟩ := hcell i (by omega)
    exact ⟨b, off, _, _, e, hc, hI, hB⟩
  rw [← hN] at hlm ⊢
  have HF1 := hide (fresh_any w)
  clear hG hcell hN
  go_enter Tryz.func5, Tryz.ntmps5
  go_wp2_with fail
  refine HF1.out.mono ?_
  rintro ee w1 ⟨pd, rfl, N1⟩
  have HN1 := hide N1
  have HF2 := hide (fresh_any w1)
  clear HF1 N1
  go_wp2_with fail
  refine HF2.out.mono ?_
  rintro ee w2 ⟨pk, rfl, N2⟩
  have HN2 := hide N2
  have HSd := hide (xseed_any 1 w2)
  clear HF2 N2
  go_wp2_with fail
  refine HSd.out.mono ?_
  rintro ee w3 ⟨as_, ms, cs, rfl, R3, K3⟩
  have HO := hide (uopen_fresh HN1.out HN2.out K3 R3 (seedX_bs 1) (seedX_len 1))
  clear HSd R3 K3 HN1 HN2
  go_wp2_with fail
  refine HO.out.mono ?_
  rintro ee w4 ⟨l, rfl, f, L4⟩
  have HL4 := hide L4
  clear HO L4
  go_wp2_with fail
  go_loopw [5, 6] (fun va i wr => ∃ k : Nat, k ≤ N ∧ k ≤ 10 ∧ i = .int .i64 k ∧ ∃ aa ma ca, va = .slice aa ma ca ∧ Inv w l pd pk k (.slice aa ma ca) ma wr) (fun _ i _ => N - (intOf i).toNat)
  case atStart => exact ⟨0, by omega, by omega, rfl, none, 0, 0, rfl, _, f, [], HL4.out, up0 _, al_nil _ _ _, rfl, rfl, rfl, (fun y hy => by cases hy), rfl, rfl⟩
  case round =>
    obtain ⟨k, hkN, hk10, rfl, aa, ma, ca, rfl, S0, f0, la, hLg, hU, hAl, hla, hma, hil, hit, hn0, hla0⟩ := hrel
    have HLg := hide hLg
    have HU := hide hU
    have HAl := hide hAl
    have HLa := hide hla
    have HMa := hide hma
    have HIl := hide hil
    have HIt := hide hit
    have HN0 := hide hn0
    have HLa0 := hide hla0
    clear HL4 hLg hU hAl hla hma hil hit hn0 hla0
    by_cases hlt : k < N ∧ k < 10
    · obtain ⟨hl1, hl2⟩ := hlt
      have hl1' : (k : Int) < (N : Int) := by omega
      have hl2' : (k : Int) < 10 := by omega
      have hd1 : decide ((k : Int) < (N : Int)) = true := decide_eq_true hl1'
      have hd2 : decide ((k : Int) < 10) = true := decide_eq_true hl2'
      have h8 : IntKind.u8.wrap (k : Int) = k := by simp [IntKind.wrap, IntKind.signed, IntKind.bits]; omega
      obtain ⟨b0, o0, vy, ys, rfl, hc, hS, hB⟩ := HC.out k hl1
      have hS' := hS.kept HLg.out.kp (by simp)
      have hSs := hS'
      obtain ⟨ay, cy, hvy, -⟩ := hSs
      obtain ⟨ny, hny⟩ : ∃ n, n = ys.length := ⟨_, rfl⟩
      rw [← hny] at hvy
      subst hvy
      obtain ⟨wa, hwa⟩ : ∃ y, y = wr.alloc (.cells #[.int .u8 (k : Int)] 5) := ⟨_, rfl⟩
      have Ka : Kp [] wr wa := by rw [hwa]; exact (Kp.refl [] _).alloc _
      have HRa : Hid (Row wa wr.heap.size (.slice (some ⟨wr.heap.size, 0, none⟩) 1 1) [(k : Int)]) := hide (by rw [hwa]; exact row_lit wr [(k : Int)] (by simp))
      have hcx := (HLg.out.kp.trans Ka).cell hc (by simp)
      obtain ⟨mC, hmC⟩ : ∃ m, m = min ny 20 := ⟨_, rfl⟩
      have HCut := hide (cutv_any ay ny cy 20 ys wa (hS'.kept Ka (by simp)))
      have HSc := hide (cutv_sl 20 (hS'.kept Ka (by simp)))
      rw [← hmC] at HCut HSc
      obtain ⟨yc, hyc⟩ : ∃ y, y = ys.take 20 := ⟨_, rfl⟩
      rw [← hyc] at HSc
      have hycl : yc.length ≤ 20 := by rw [hyc, List.length_take]; omega
      have HYl := hide hycl
      have HYB : Hid (Bs yc) := hide (by rw [hyc]; exact hB.takes _)
      have HKa := hide Ka
      have hsa : wa.heap.size = wr.heap.size + 1 := by rw [hwa, World.size_alloc]
      have HSa := hide hsa
      have hs1 : (1 : Nat) + yc.length ≤ 140737488355328 := by omega
      rw [hwa] at HCut hcx
      have HWa := hide hwa
      clear hc hS hS' hB hny hmC hyc hycl hwa hsa Ka
      go_wp2_with fail
      refine HCut.out.mono ?_
      rintro ee wq ⟨rfl, hwq⟩
      subst wq
      rw [← HWa.out]
      clear HCut
      obtain ⟨X, hX⟩ : ∃ X, X = [(k : Int)] ++ yc := ⟨_, rfl⟩
      have hXl : X.length ≤ 21 := by rw [hX, List.length_append]; have := HYl.out; simp; omega
      have hX0 : 0 < X.length := by rw [hX]; simp
      have HXe := hide hX
      have HXl := hide hXl
      have HX0 := hide hX0
      have HBX : Hid (Bs X) := hide (fun z hz => by
        rw [hX] at hz
        rcases List.mem_append.1 hz with hz | hz
        · obtain rfl : z = (k : Int) := by simpa using hz
          omega
        · exact HYB.out z hz)
      have hlq : la.length ≤ 1000000 := by
        have h1 := congrArg List.length HLa.out
        rw [List.length_map] at h1
        have := HIl.out
        omega
      have hs2 : ([] : List Int).length + X.length ≤ 140737488355328 := by simp; omega
      have HW0 := hide HLg.out.kp.size
      clear hX hXl hX0
      go_wp2_with (first
        | (at_builtin
           refine wpList_append_row rfl (.tmp 45) (.tmp 50) rfl wr.heap.size (.slice (some ⟨wr.heap.size, 0, none⟩) 1 1) [(k : Int)] rfl HRa.out (.slice ay mC cy) yc rfl HSc.out hs1 (by rw [HSa.out]; omega) ?_
           intro a5 n5 c5 w5 R5 S5
           rw [← HXe.out] at R5
           have hn5 := R5.len
           obtain ⟨gx, ha5, hg1, hg2, -⟩ := R5.spot (by rw [hn5]; exact HX0.out)
           subst ha5
           have HN5 := hide hn5
           have HR5 := hide R5
           have HG1 := hide hg1
           have HG2 := hide hg2
           have HK5 := hide (HKa.out.then S5.1 (fun i hi => .inr (by have : i = wr.heap.size := (by simpa [Value.ownBlock, Option.mem_toList, eq_comm] using hi); omega)))
           have HRe := hide (row_lit w5 [] (by simp))
           have HSx := hide (R5.sl.kept ((Kp.refl [] w5).alloc (.cells #[] 5)) (by simp))
           clear R5 S5 hn5 hg1 hg2 HRa HSc)
        | (at_builtin
           refine wpList_append_row rfl (.tmp 53) (.tmp 54) rfl w5.heap.size (.slice (some ⟨w5.heap.size, 0, none⟩) 0 0) [] rfl HRe.out (.slice (some ⟨gx, 0, none⟩) n5 c5) X rfl HSx.out hs2 (by rw [World.size_alloc]; omega) ?_
           intro a6 n6 c6 w6 R6 S6
           rw [List.nil_append] at R6
           have HK6 := hide (((Kp.refl [] w5).alloc (.cells #[] 5)).then S6.1 (fun i hi => .inr (by have : i = w5.heap.size := (by simpa [Value.ownBlock, Option.mem_toList, eq_comm] using hi); omega)))
           have HA6 := hide (HAl.out.on (HK5.out.trans HK6.out))
           have HSy := hide R6.sl
           have HO6 : Hid (∀ j, (Value.slice a6 n6 c6).ownBlock = some j → w5.heap.size ≤ j ∧ j < w6.heap.size) := hide (fun j hj => ⟨R6.own j hj, R6.lt hj⟩)
           have HW6 := hide (Nat.le_trans HW0.out (HK5.out.trans HK6.out).size)
           have HAp : Hid (∀ j, (Value.slice a6 n6 c6).ownBlock = some j → (Value.slice aa ma ca).ownBlock ≠ some j) := hide (fun j h1 h2 => by
             have h3 := (HO6.out j h1).1
             have h4 := (HAl.out.own j h2).1
             have h5 := HK5.out.size
             omega)
           have HNb : Hid (∀ j, (Value.slice a6 n6 c6).ownBlock = some j → w.heap.size ≤ j) := hide (fun j h1 => by
             have h3 := (HO6.out j h1).1
             have h5 := HK5.out.size
             have h6 := HW0.out
             omega)
           clear R6 S6 HRe HSx)
        | (at_builtin
           refine wpList_rowsR rfl (.tmp 52) (.tmp 56) rfl (.slice aa ma ca) la rfl HA6.out.row HW6.out hlq (.slice a6 n6 c6) X HSy.out HAp.out HNb.out HBX.out rfl ?_
           intro a7 m7 c7 w7 hm7 P7 S7
           have HM7 := hide hm7
           have hft : ∀ i, f0.tot i → i < wr.heap.size := fun i hi => (HLg.out.lt i hi).2
           have h56 := HK6.out.size
           have h05 := HK5.out.size
           have HA7 := hide (HA6.out.put (x := (.slice a6 n6 c6, X)) (fun j e => by have := hft j e; omega) P7 S7 (fun j h1 => ⟨(HO6.out j h1).2, fun e => by have := hft j e; have := (HO6.out j h1).1; omega⟩))
           have hown : ∀ j ∈ (Value.slice aa ma ca).ownBlock.toList, j < wr.heap.size ∧ w.heap.size ≤ j ∧ ¬ f0.tot j := fun j hj => by
             have h1 : (Value.slice aa ma ca).ownBlock = some j := by simpa [Option.mem_toList] using hj
             exact ⟨(HAl.out.own j h1).1, HAl.out.row.1.1.own j h1, (HAl.out.own j h1).2⟩
           have HL7 := hide ((HLg.out.on (HK5.out.trans HK6.out)).beside S7.1 (fun j hj => (hown j hj).2))
           have HR7 := hide ((HR5.out.kept HK6.out (by simp)).kept S7.1 (fun j h1 hj => by have h2 : gx = j := (by simpa [Value.ownBlock] using h1); have := (hown j hj).1; have := HG1.out; omega))
           have HNg : Hid (∀ j, (Value.slice a7 m7 c7).ownBlock = some j → j ≠ gx) := hide (fun j hj e => by
             have h3 := HG1.out
             have h4 := HG2.out
             rcases S7.2 j hj with h1 | h1
             · have := (HAl.out.own j h1).1; omega
             · omega)
           have HNi : Hid (∀ y ∈ la ++ [(Value.slice a6 n6 c6, X)], ∀ j, y.1.ownBlock = some j → j ≠ gx) := hide (fun y hy j hj e => by
             have h3 := HG1.out
             have h4 := HG2.out
             rcases List.mem_append.1 hy with hy | hy
             · have := (HAl.out.its y hy j hj).1; omega
             · obtain rfl : y = (Value.slice a6 n6 c6, X) := by simpa using hy
               have := (HO6.out j hj).1; omega)
           have HK7 := hide S7.1.size
           clear P7 S7 hm7 hft hown HA6 HSy HAp HNb))
      have hnin : X ∉ S0.its := fun hm => by
        obtain ⟨⟨j, hj, e⟩, -⟩ := HIt.out X hm
        rw [HXe.out] at e
        simp at e
        omega
      obtain ⟨hnew, hall, hns⟩ := one_ns hnin
      have HAll := hide hall
      obtain ⟨wb, hwb⟩ : ∃ y, y = w7.alloc (.cells #[.slice (some ⟨gx, 0, none⟩) n5 c5] 29) := ⟨_, rfl⟩
      have Kb : Kp [] w7 wb := by rw [hwb]; exact (Kp.refl [] _).alloc _
      have hXl := HXl.out
      have hil := HIl.out
      have HAd := hide (uadd_up (HL7.out.on Kb) (40 * k) k 21 HU.out (by omega) (.slice (some ⟨w7.heap.size, 0, none⟩) 1 1) [((.slice (some ⟨gx, 0, none⟩) n5 c5), X)] [X] rfl (by rw [hwb]; exact lists1 HR7.out.sl HBX.out) (by simp; omega) (by omega) (by simp) (by rw [hall, List.length_append]; simp; omega) (by simp) (by simp; omega))
      have HKb := hide Kb
      have HAb := hide (HA7.out.on Kb)
      have HRb := hide (HR7.out.kept Kb (by simp))
      have HSb := hide Kb.size
      rw [hwb] at HAd
      have HWb := hide hwb
      clear hnin hnew hall hns Kb hwb hXl hil
      go_wp2_with fail
      refine HAd.out.mono ?_
      rintro ee w8 ⟨vr, rfl, R8, S8, f8, L8, T8, -, U8, hits, hn8, hsd8, hla8⟩
      rw [← HWb.out] at T8
      have HL8 := hide L8
      have HA8 := hide (HAb.out.step T8)
      have hngx : ¬ f0.tot gx := fun e => by have := (HLg.out.lt gx e).2; have := HG1.out; omega
      have hgb : gx < wb.heap.size := by have h1 := HG2.out; have h2 := HK6.out.size; have h3 := HK7.out; have h4 := HSb.out; omega
      have HF8 : Hid (¬ f8.tot gx) := hide (T8.off hgb hngx)
      have HR8 : Hid (Row w8 wr.heap.size (.slice (some ⟨gx, 0, none⟩) n5 c5) X) := hide (by
        obtain ⟨U, hU, kU⟩ := T8.kp
        exact HRb.out.kept kU (fun j h1 hm => by
          have h2 : gx = j := by simpa [Value.ownBlock] using h1
          subst h2
          exact hngx (hU _ hm)))
      have HU8 : Hid (Up S8 (40 * (k + 1)) (k + 1)) := hide (by
        obtain ⟨⟨b, e1, e2⟩, e3, e4, e5⟩ := U8
        simp at e2
        exact ⟨⟨b, e1, by omega⟩, e3, e4, e5⟩)
      have HI8 : Hid (S8.its = S0.its ++ [X]) := hide (by rw [hits]; exact HAll.out)
      have HN8 : Hid (S8.n = 0) := hide (by rw [hn8]; exact HN0.out)
      have HLa8 : Hid (S8.la = none) := hide (by rw [hla8]; exact HLa0.out)
      have HGw : Hid (w.heap.size ≤ gx) := hide (Nat.le_trans HW0.out HG1.out)
      have hn5 : n5 ≤ 21 := by rw [HN5.out]; exact HXl.out
      obtain ⟨ar8, cr8, R8s⟩ := R8.shape
      obtain ⟨nr8, hnr8⟩ : ∃ n, n = (nsU S0.its [X]).length := ⟨_, rfl⟩
      rw [← hnr8] at R8s
      subst R8s
      clear HAd R8 L8 T8 U8 hits hn8 hsd8 hla8 hngx hgb HL7 HA7 HR7 HAb HRb HKb
      go_wp2_with fail
      go_loopw [10] (fun kk wq => ∃ q : Nat, q ≤ n5 ∧ kk = .int .i64 q ∧ Hid (Kp [gx] w8 wq) ∧ Hid (Mu wq gx 0 n5)) (fun kk _ => n5 - (intOf kk).toNat)
      case atStart => exact ⟨0, by omega, rfl, hide (Kp.refl _ _), hide HR8.out.mu⟩
      case round =>
        obtain ⟨q, hq, rfl, HKq, HMq⟩ := hrel
        by_cases hqlt : q < n5
        · have hq' : (q : Int) < (n5 : Int) := by omega
          have hdq : decide ((q : Int) < (n5 : Int)) = true := decide_eq_true hq'
          obtain ⟨⟨u, hcu⟩, hfz⟩ := HMq.out.at0 q hqlt
          go_wp2_with fail
          go_roundw
          case rel => exact ⟨q + 1, by omega, by go_num, hide (HKq.out.setCell (p := ⟨gx, q, none⟩) (.inl (by simp)) _), hide (HMq.out.set0 q _)⟩
          case measure => simp [intOf]; omega
        · obtain rfl : q = n5 := by omega
          have hq' : ¬ (q : Int) < (q : Int) := by omega
          have hdq : decide ((q : Int) < (q : Int)) = false := decide_eq_false hq'
          have HL9 := hide (HL8.out.beside HKq.out (fun j hj => by
            obtain rfl : j = gx := by simpa using hj
            exact ⟨HGw.out, HF8.out⟩))
          have HA9 := hide (HA8.out.aside HKq.out (fun j hj hm => HNg.out j hj (by simpa using hm)) (fun y hy j hj hm => HNi.out y hy j hj (by simpa using hm)))
          obtain ⟨nX, hnX⟩ : ∃ n, n = X.length := ⟨_, rfl⟩
          have HEn := hide (uentry_ok HL9.out k (by rw [HI8.out, List.length_append, HIl.out]; simp) X (by
            have e : S8.its[k]? = some X := by rw [HI8.out, List.getElem?_append_right (by rw [HIl.out]; omega), HIl.out]; simp
            rw [List.getElem?_eq_getElem (by rw [HI8.out, List.length_append, HIl.out]; simp)] at e
            exact (Option.some.inj e).symm))
          rw [← hnX] at HEn
          have HNX := hide hnX
          clear hnX HMq HL8 HA8 HKq HR8
          go_wp2_with fail
          refine HEn.out.mono ?_
          rintro ee w10 ⟨c10, rfl, S10, K10, Z10⟩
          obtain ⟨gb, hgb⟩ : ∃ g, g = wr.heap.size := ⟨_, rfl⟩
          rw [← hgb] at S10 Z10 ⊢
          have HL10 := hide ((HL9.out.on K10).on (kp_drew w10))
          have HA10 := hide ((HA9.out.on K10).on (kp_drew w10))
          have HGb : Hid (∀ j, j < wr.heap.size → j ≠ gb) := hide (fun j hj e => by omega)
          have HFb : Hid (¬ f8.tot gb) := hide (fun e => by have := (HL9.out.lt gb e).2; omega)
          have HGwb : Hid (w.heap.size ≤ gb) := hide (by rw [hgb]; exact HL9.out.kp.size)
          have HNgb : Hid (∀ j, (Value.slice a7 m7 c7).ownBlock = some j → j ≠ gb) := hide (fun j hj e => by have := (HA9.out.own j hj).1; omega)
          have HNib : Hid (∀ y ∈ la ++ [(Value.slice a6 n6 c6, X)], ∀ j, y.1.ownBlock = some j → j ≠ gb) := hide (fun y hy j hj e => by have := (HA9.out.its y hy j hj).1; omega)
          have HM10 : Hid (Mu w10.drew gb 0 nX) := hide ((Sl.mu S10 (fun i hi => by rw [Nat.zero_add]; exact Z10 i hi)).kept (kp_drew w10) (by simp))
          have hkl : k < (la ++ [(Value.slice a6 n6 c6, X)]).length := by
            have h1 := congrArg List.length HLa.out
            rw [List.length_map, HIl.out] at h1
            rw [List.length_append, h1]
            simp
          have hel : (la ++ [(Value.slice a6 n6 c6, X)])[k] = (Value.slice a6 n6 c6, X) := by
            have h1 := congrArg List.length HLa.out
            rw [List.length_map, HIl.out] at h1
            rw [List.getElem_append_right (by omega)]
            simp
          obtain ⟨ga, ha7, hca⟩ := HA10.out.row.1.1.at k (by rw [List.length_map]; exact hkl)
          rw [List.getElem_map, hel] at hca
          subst ha7
          have hSi := (HA10.out.row.1.2 _ (List.getElem_mem hkl)).1
          rw [hel] at hSi
          have d2 : w10.drew.cell? ⟨ga, k, none⟩ = some (.slice a6 n6 c6) := hca
          have v1 := (S10.kept (kp_drew w10) (by simp)).conv (P := Tryz.prog) 29 9 5 Tryz.underlying29 Tryz.underlying5 Tryz.underlying9
          have v2 := hSi.conv (P := Tryz.prog) 29 9 5 Tryz.underlying29 Tryz.underlying5 Tryz.underlying9
          obtain ⟨SS, hSS⟩ : ∃ S, S = strOfNums X := ⟨_, rfl⟩
          simp only at v2
          rw [← hSS] at v1 v2
          have hm7 : k < m7 := by
            rw [HM7.out]
            have h1 := congrArg List.length HLa.out
            rw [List.length_map, HIl.out] at h1
            omega
          have hm7' : (k : Int) < (m7 : Int) := by omega
          have hnX21 : nX ≤ 21 := by rw [HNX.out]; exact HXl.out
          clear HEn S10 K10 Z10 hgb hkl hel hca hSi hSS HL9 HA9
          go_wp2_with fail
          refine region_read Tryz.mixed (by kernel_rfl) ?_
          repeat (first | go_big_quiet_skip | (go_big_quiet_want; go_big_quiet_op; go_big_quiet_on))
          refine wpQuiet_nil ?_
          go_wp2_with fail
          go_loopw [13] (fun kk wq => ∃ q : Nat, q ≤ nX ∧ kk = .int .i64 q ∧ Hid (Kp [gb] w10.drew wq) ∧ Hid (Mu wq gb 0 nX)) (fun kk _ => nX - (intOf kk).toNat)
          case atStart => exact ⟨0, by omega, rfl, hide (Kp.refl _ _), HM10⟩
          case round =>
            clear d2 v1 v2
            obtain ⟨q2, hq2, rfl, HKq, HMq⟩ := hrel
            by_cases hqlt : q2 < nX
            · have hq' : (q2 : Int) < (nX : Int) := by omega
              have hdq : decide ((q2 : Int) < (nX : Int)) = true := decide_eq_true hq'
              obtain ⟨⟨u, hcu⟩, hfz⟩ := HMq.out.at0 q2 hqlt
              go_wp2_with fail
              go_roundw
              case rel => exact ⟨q2 + 1, by omega, by go_num, hide (HKq.out.setCell (p := ⟨gb, q2, none⟩) (.inl (by simp)) _), hide (HMq.out.set0 q2 _)⟩
              case measure => simp [intOf]; omega
            · obtain rfl : q2 = nX := by omega
              have hq' : ¬ (q2 : Int) < (q2 : Int) := by omega
              have hdq : decide ((q2 : Int) < (q2 : Int)) = false := decide_eq_false hq'
              have HL11 := hide (HL10.out.beside HKq.out (fun j hj => by
                obtain rfl : j = gb := by simpa using hj
                exact ⟨HGwb.out, HFb.out⟩))
              have HA11 := hide (HA10.out.aside HKq.out (fun j hj hm => HNgb.out j hj (by simpa using hm)) (fun y hy j hj hm => HNib.out y hy j hj (by simpa using hm)))
              clear HMq HL10 HA10 HKq HM10
              go_wp2_with fail
              go_roundw
              case rel =>
                refine ⟨k + 1, by omega, by omega, by go_num, _, m7, c7, rfl, S8, f8, la ++ [(.slice a6 n6 c6, X)], HL11.out, HU8.out, HA11.out, ?_, ?_, ?_, ?_, HN8.out, HLa8.out⟩
                · rw [List.map_append, HLa.out, HI8.out]; rfl
                · rw [List.length_append]; exact HM7.out
                · rw [HI8.out, List.length_append, HIl.out]; rfl
                · rw [HI8.out]
                  intro y hy
                  rcases List.mem_append.1 hy with hy | hy
                  · obtain ⟨⟨j, hj, e⟩, h2⟩ := HIt.out y hy
                    exact ⟨⟨j, by omega, e⟩, h2⟩
                  · obtain rfl : y = X := by simpa using hy
                    exact ⟨⟨k, by omega, by rw [HXe.out]; rfl⟩, HXl.out⟩
              case measure => simp [intOf]; omega
    · have HPb := hide (upub_up HLg.out HG.out (40 * k) k HU.out (by rw [HN0.out]; omega) (fun a h => by rw [HLa0.out] at h; cases h))
      obtain ⟨SG, hSG⟩ : ∃ s, s = sgU S0.seed S0.its (S0.its.length, S0.n) := ⟨_, rfl⟩
      obtain ⟨r, hr⟩ : ∃ r, r = rtU S0.its := ⟨_, rfl⟩
      obtain ⟨SS, hSS⟩ : ∃ S, S = strOfNums r := ⟨_, rfl⟩
      have HSGr : Hid (SG.r = r) := hide (by rw [hSG, hr]; show rtU (S0.its.take S0.its.length) = _; rw [List.take_length])
      have HRl : Hid (r.length = 32) := hide (by rw [hr]; exact rtU_len _)
      have HRr : Hid (r = trootP (S0.its.map tleafP)) := hide hr
      have HR := hide hr
      have HSG := hide hSG
      have HSS := hide hSS
      have HMk : Hid (ma = k) := hide (by rw [HMa.out, ← HIl.out, ← HLa.out, List.length_map])
      have hlq : la.length ≤ 1000000 := by rw [← HMa.out, HMk.out]; omega
      clear hSG hr hSS
      by_cases hl1 : k < N
      · have hl1' : (k : Int) < (N : Int) := by omega
        have hl2' : ¬ (k : Int) < 10 := by omega
        have hd1 : decide ((k : Int) < (N : Int)) = true := decide_eq_true hl1'
        have hd2 : decide ((k : Int) < 10) = false := decide_eq_false hl2'
        go_wp2_with fail
        refine HPb.out.mono ?_
        rintro ee w5 ⟨v5, rfl, S5, f5, L5, T5, U5, hits5, hn5, hsd5, hla5, b5, hb1, hb2, hb3, A5⟩
        rw [← HSG.out] at A5
        obtain ⟨ar, mr, cr, ap, np, cp, aq, nq, cq, rfl, ⟨hSr, hBr⟩, -⟩ := A5.v.shape
        obtain ⟨hFz, hGe⟩ := A5.2 _ _ _ _ _ rfl
        rw [HSGr.out] at hSr
        have hmr : mr = 32 := by have h1 := sl_nlen hSr; have h2 := HRl.out; omega
        subst hmr
        obtain ⟨gr, orr, har, -, -⟩ := Sl.spot hSr (by omega)
        subst har
        have hgr := hFz gr rfl
        have hgb := hGe gr rfl
        have HL5 := hide L5
        have HA5 := hide (HAl.out.step T5)
        have HSr := hide hSr
        have HFr := hide hgr
        have HFg : Hid (¬ f5.tot gr) := hide (fun e => by have := hb1 gr e; omega)
        have HWg : Hid (w.heap.size ≤ gr) := hide (by have := HLg.out.kp.size; omega)
        have HI5 := hide hits5
        have HLa5 := hide hla5
        have HSd5 := hide hsd5
        have HGz : Hid ((w5.alloc (.cells #[.int .i64 0, .slice none 0 0, .int .i64 0, .slice none 0 0, .slice none 0 0] 54)).heap[w5.heap.size]? = some (.cells #[.int .i64 0, .slice none 0 0, .int .i64 0, .slice none 0 0, .slice none 0 0] 54 (0, 0))) := hide (heap_alloc_new w5 _)
        clear HPb L5 T5 U5 hits5 hn5 hsd5 hla5 hb1 hb2 hb3 A5 hSr hBr hFz hGe hgr hgb HAl HLg HU
        go_wp2_with (refine wpList_store_flat rfl 54 (.tmp 14) (.tmp 112) rfl w5.heap.size 0 rfl #[.int .i64 0, .slice none 0 0, .int .i64 0, .slice none 0 0, .slice none 0 0] 54 [.int .i64 SG.n, .slice (some ⟨gr, orr, none⟩) 32 cr, .int .i64 SG.i, .slice ap np cp, .slice aq nq cq] HGz.out rfl (by simp) Tryz.sgdSize (by simp [Value.oneCell']) #[.int .i64 SG.n, .slice (some ⟨gr, orr, none⟩) 32 cr, .int .i64 SG.i, .slice ap np cp, .slice aq nq cq] rfl ?_; intro w6 G6 K6)
        have K56 : Kp [] w5 w6 := ((Kp.refl [] w5).alloc _).then K6 (fun i hi => .inr (by simp at hi; omega))
        have HK56 := hide K56
        have HG6 := hide G6
        have HA6 := hide (HA5.out.on K56)
        have HLs := hide (rleaves_any (.slice aa ma ca) S0.its w6 ⟨la, lc_of_owns HA6.out.row.1.1 (HA6.out.row.lists hlq), HLa.out⟩ (by rw [HIl.out]; omega) (fun y hy => by have := (HIt.out y hy).2; omega))
        clear K56 G6 K6
        go_wp2_with fail
        refine HLs.out.mono ?_
        rintro ee w7 ⟨a7, m7, c7, rfl, A7⟩
        have HRt := hide (rroot_any S0.its.length (.slice a7 m7 c7) (S0.its.map tleafP) r w7 HRr.out (by simp) (by rw [HIl.out]; omega) (A7.lcm (by rw [List.length_map, HIl.out]; omega)) (fun y hy => by obtain ⟨z, _, rfl⟩ := List.mem_map.1 hy; have := sha_len (0 :: z); unfold tleafP; omega))
        have HK67 := hide A7.kp
        clear HLs A7
        go_wp2_with fail
        refine HRt.out.mono ?_
        rintro ee w8 ⟨a8, m8, c8, rfl, R8, K8⟩
        have hcv := R8.conv (P := Tryz.prog) 29 9 5 Tryz.underlying29 Tryz.underlying5 Tryz.underlying9
        rw [← HSS.out] at hcv
        have K68 := HK67.out.trans K8
        have HK58 := hide (HK56.out.trans K68)
        have HL8 := hide (HL5.out.on HK58.out)
        have HG8 := hide (K68.heap HG6.out (by simp))
        clear HRt R8 K8 HK67 K68
        go_wp2_with fail
        clear hcv
        go_loopw [17] (fun kk wq => ∃ q : Nat, q ≤ 32 ∧ kk = .int .i64 q ∧ Hid (Kp [gr] w8 wq) ∧ Hid (Mu wq gr orr 32)) (fun kk _ => 32 - (intOf kk).toNat)
        case atStart => exact ⟨0, by omega, rfl, hide (Kp.refl _ _), hide (Sl.mu (HSr.out.kept HK58.out (by simp)) (fun i hi => frz_kept HK58.out HFr.out.1 (by simp) (HFr.out.2 _)))⟩
        case round =>
          obtain ⟨q, hq, rfl, HKq, HMq⟩ := hrel
          have G9 := HKq.out.heap HG8.out (by simp; have := HFr.out.1; omega)
          have c1 : wr.cell? ⟨w5.heap.size, 1, none⟩ = some (.slice (some ⟨gr, orr, none⟩) 32 cr) := by rw [cell_of_row wr _ 1 _ _ _ G9]; rfl
          clear G9
          by_cases hqlt : q < 32
          · have hq' : (q : Int) < 32 := by omega
            have hdq : decide ((q : Int) < 32) = true := decide_eq_true hq'
            obtain ⟨⟨u, hcu⟩, hfz⟩ := HMq.out q hqlt
            go_wp2_with fail
            go_roundw
            case rel => exact ⟨q + 1, by omega, by go_num, hide (HKq.out.setCell (p := ⟨gr, orr + q, none⟩) (.inl (by simp)) _), hide (HMq.out.set q _)⟩
            case measure => simp [intOf]; omega
          · obtain rfl : q = 32 := by omega
            have HL9 := hide (HL8.out.beside HKq.out (fun j hj => by
              obtain rfl : j = gr := by simpa using hj
              exact ⟨HWg.out, HFg.out⟩))
            have HLt := hide (ulast_some HL9.out S0.its.length S0.n HLa5.out)
            clear HMq HL8
            go_wp2_with fail
            refine HLt.out.mono ?_
            rintro ee w10 ⟨v10, rfl, A10, K10⟩
            rw [HSd5.out, HI5.out, ← HSG.out] at A10
            obtain ⟨at_, mt, ct, ap2, np2, cp2, aq2, nq2, cq2, rfl, ⟨hSt, -⟩, -⟩ := A10.v.shape
            rw [HSGr.out] at hSt
            have HSt := hide hSt
            have HL10 := hide (HL9.out.on K10)
            have HGy : Hid ((w10.alloc (.cells #[.int .i64 0, .slice none 0 0, .int .i64 0, .slice none 0 0, .slice none 0 0] 54)).heap[w10.heap.size]? = some (.cells #[.int .i64 0, .slice none 0 0, .int .i64 0, .slice none 0 0, .slice none 0 0] 54 (0, 0))) := hide (heap_alloc_new w10 _)
            clear HLt A10 K10 hSt HL9
            go_wp2_with (refine wpList_store_flat rfl 54 (.tmp 18) (.tmp 139) rfl w10.heap.size 0 rfl #[.int .i64 0, .slice none 0 0, .int .i64 0, .slice none 0 0, .slice none 0 0] 54 [.int .i64 SG.n, .slice at_ mt ct, .int .i64 SG.i, .slice ap2 np2 cp2, .slice aq2 nq2 cq2] HGy.out rfl (by simp) Tryz.sgdSize (by simp [Value.oneCell']) #[.int .i64 SG.n, .slice at_ mt ct, .int .i64 SG.i, .slice ap2 np2 cp2, .slice aq2 nq2 cq2] rfl ?_; intro w11 G11 K11a; have K11 : Kp [] w10 w11 := ((Kp.refl [] w10).alloc _).then K11a (fun i hi => .inr (by simp at hi; omega)); have c2 : w11.cell? ⟨w10.heap.size, 1, none⟩ = some (.slice at_ mt ct) := (by rw [cell_of_row w11 _ 1 _ _ _ G11]; rfl); have hcv2 := (HSt.out.kept K11 (by simp)).conv (P := Tryz.prog) 29 9 5 Tryz.underlying29 Tryz.underlying5 Tryz.underlying9; rw [← HSS.out] at hcv2; have HL11 := hide (HL10.out.on K11); have HRt2 := hide (uroot_any HL11.out r (by rw [HI5.out]; exact HR.out) (HG.out.kept HL11.out.kp (by simp))); clear K11a K11 G11)
            refine HRt2.out.mono ?_
            rintro ee w12 ⟨a12, m12, c12, rfl, R12, K12⟩
            have hcv3 := R12.sl.conv (P := Tryz.prog) 29 9 5 Tryz.underlying29 Tryz.underlying5 Tryz.underlying9
            rw [← HSS.out] at hcv3
            have HL12 := hide (HL11.out.on K12)
            have HZ := hide (usize_any HL12.out (ma : Int) (by rw [HI5.out, HIl.out, HMk.out]))
            clear HRt2 R12 K12
            go_wp2_with fail
            refine HZ.out.mono ?_
            rintro ee w13 ⟨rfl, hw13⟩
            subst w13
            have HKn := hide (uknown_any w12 (HG.out.kept HL12.out.kp (by simp)))
            clear HZ
            go_wp2_with fail
            refine HKn.out.mono ?_
            rintro ee w14 ⟨rfl, K14⟩
            have HK14 := hide (HL12.out.kp.trans K14)
            clear HKn K14
            go_wp2_with fail
            go_ret
            exact ⟨rfl, HK14.out.below (Nat.le_refl _) (by simp)⟩
      · have hl1' : ¬ (k : Int) < (N : Int) := by omega
        have hd1 : decide ((k : Int) < (N : Int)) = false := decide_eq_false hl1'
        go_wp2_with fail
        refine HPb.out.mono ?_
        rintro ee w5 ⟨v5, rfl, S5, f5, L5, T5, U5, hits5, hn5, hsd5, hla5, b5, hb1, hb2, hb3, A5⟩
        rw [← HSG.out] at A5
        obtain ⟨ar, mr, cr, ap, np, cp, aq, nq, cq, rfl, ⟨hSr, hBr⟩, -⟩ := A5.v.shape
        obtain ⟨hFz, hGe⟩ := A5.2 _ _ _ _ _ rfl
        rw [HSGr.out] at hSr
        have hmr : mr = 32 := by have h1 := sl_nlen hSr; have h2 := HRl.out; omega
        subst hmr
        obtain ⟨gr, orr, har, -, -⟩ := Sl.spot hSr (by omega)
        subst har
        have hgr := hFz gr rfl
        have hgb := hGe gr rfl
        have HL5 := hide L5
        have HA5 := hide (HAl.out.step T5)
        have HSr := hide hSr
        have HFr := hide hgr
        have HFg : Hid (¬ f5.tot gr) := hide (fun e => by have := hb1 gr e; omega)
        have HWg : Hid (w.heap.size ≤ gr) := hide (by have := HLg.out.kp.size; omega)
        have HI5 := hide hits5
        have HLa5 := hide hla5
        have HSd5 := hide hsd5
        have HGz : Hid ((w5.alloc (.cells #[.int .i64 0, .slice none 0 0, .int .i64 0, .slice none 0 0, .slice none 0 0] 54)).heap[w5.heap.size]? = some (.cells #[.int .i64 0, .slice none 0 0, .int .i64 0, .slice none 0 0, .slice none 0 0] 54 (0, 0))) := hide (heap_alloc_new w5 _)
        clear HPb L5 T5 U5 hits5 hn5 hsd5 hla5 hb1 hb2 hb3 A5 hSr hBr hFz hGe hgr hgb HAl HLg HU
        go_wp2_with (refine wpList_store_flat rfl 54 (.tmp 14) (.tmp 112) rfl w5.heap.size 0 rfl #[.int .i64 0, .slice none 0 0, .int .i64 0, .slice none 0 0, .slice none 0 0] 54 [.int .i64 SG.n, .slice (some ⟨gr, orr, none⟩) 32 cr, .int .i64 SG.i, .slice ap np cp, .slice aq nq cq] HGz.out rfl (by simp) Tryz.sgdSize (by simp [Value.oneCell']) #[.int .i64 SG.n, .slice (some ⟨gr, orr, none⟩) 32 cr, .int .i64 SG.i, .slice ap np cp, .slice aq nq cq] rfl ?_; intro w6 G6 K6)
        have K56 : Kp [] w5 w6 := ((Kp.refl [] w5).alloc _).then K6 (fun i hi => .inr (by simp at hi; omega))
        have HK56 := hide K56
        have HG6 := hide G6
        have HA6 := hide (HA5.out.on K56)
        have HLs := hide (rleaves_any (.slice aa ma ca) S0.its w6 ⟨la, lc_of_owns HA6.out.row.1.1 (HA6.out.row.lists hlq), HLa.out⟩ (by rw [HIl.out]; omega) (fun y hy => by have := (HIt.out y hy).2; omega))
        clear K56 G6 K6
        go_wp2_with fail
        refine HLs.out.mono ?_
        rintro ee w7 ⟨a7, m7, c7, rfl, A7⟩
        have HRt := hide (rroot_any S0.its.length (.slice a7 m7 c7) (S0.its.map tleafP) r w7 HRr.out (by simp) (by rw [HIl.out]; omega) (A7.lcm (by rw [List.length_map, HIl.out]; omega)) (fun y hy => by obtain ⟨z, _, rfl⟩ := List.mem_map.1 hy; have := sha_len (0 :: z); unfold tleafP; omega))
        have HK67 := hide A7.kp
        clear HLs A7
        go_wp2_with fail
        refine HRt.out.mono ?_
        rintro ee w8 ⟨a8, m8, c8, rfl, R8, K8⟩
        have hcv := R8.conv (P := Tryz.prog) 29 9 5 Tryz.underlying29 Tryz.underlying5 Tryz.underlying9
        rw [← HSS.out] at hcv
        have K68 := HK67.out.trans K8
        have HK58 := hide (HK56.out.trans K68)
        have HL8 := hide (HL5.out.on HK58.out)
        have HG8 := hide (K68.heap HG6.out (by simp))
        clear HRt R8 K8 HK67 K68
        go_wp2_with fail
        clear hcv
        go_loopw [17] (fun kk wq => ∃ q : Nat, q ≤ 32 ∧ kk = .int .i64 q ∧ Hid (Kp [gr] w8 wq) ∧ Hid (Mu wq gr orr 32)) (fun kk _ => 32 - (intOf kk).toNat)
        case atStart => exact ⟨0, by omega, rfl, hide (Kp.refl _ _), hide (Sl.mu (HSr.out.kept HK58.out (by simp)) (fun i hi => frz_kept HK58.out HFr.out.1 (by simp) (HFr.out.2 _)))⟩
        case round =>
          obtain ⟨q, hq, rfl, HKq, HMq⟩ := hrel
          have G9 := HKq.out.heap HG8.out (by simp; have := HFr.out.1; omega)
          have c1 : wr.cell? ⟨w5.heap.size, 1, none⟩ = some (.slice (some ⟨gr, orr, none⟩) 32 cr) := by rw [cell_of_row wr _ 1 _ _ _ G9]; rfl
          clear G9
          by_cases hqlt : q < 32
          · have hq' : (q : Int) < 32 := by omega
            have hdq : decide ((q : Int) < 32) = true := decide_eq_true hq'
            obtain ⟨⟨u, hcu⟩, hfz⟩ := HMq.out q hqlt
            go_wp2_with fail
            go_roundw
            case rel => exact ⟨q + 1, by omega, by go_num, hide (HKq.out.setCell (p := ⟨gr, orr + q, none⟩) (.inl (by simp)) _), hide (HMq.out.set q _)⟩
            case measure => simp [intOf]; omega
          · obtain rfl : q = 32 := by omega
            have HL9 := hide (HL8.out.beside HKq.out (fun j hj => by
              obtain rfl : j = gr := by simpa using hj
              exact ⟨HWg.out, HFg.out⟩))
            have HLt := hide (ulast_some HL9.out S0.its.length S0.n HLa5.out)
            clear HMq HL8
            go_wp2_with fail
            refine HLt.out.mono ?_
            rintro ee w10 ⟨v10, rfl, A10, K10⟩
            rw [HSd5.out, HI5.out, ← HSG.out] at A10
            obtain ⟨at_, mt, ct, ap2, np2, cp2, aq2, nq2, cq2, rfl, ⟨hSt, -⟩, -⟩ := A10.v.shape
            rw [HSGr.out] at hSt
            have HSt := hide hSt
            have HL10 := hide (HL9.out.on K10)
            have HGy : Hid ((w10.alloc (.cells #[.int .i64 0, .slice none 0 0, .int .i64 0, .slice none 0 0, .slice none 0 0] 54)).heap[w10.heap.size]? = some (.cells #[.int .i64 0, .slice none 0 0, .int .i64 0, .slice none 0 0, .slice none 0 0] 54 (0, 0))) := hide (heap_alloc_new w10 _)
            clear HLt A10 K10 hSt HL9
            go_wp2_with (refine wpList_store_flat rfl 54 (.tmp 18) (.tmp 139) rfl w10.heap.size 0 rfl #[.int .i64 0, .slice none 0 0, .int .i64 0, .slice none 0 0, .slice none 0 0] 54 [.int .i64 SG.n, .slice at_ mt ct, .int .i64 SG.i, .slice ap2 np2 cp2, .slice aq2 nq2 cq2] HGy.out rfl (by simp) Tryz.sgdSize (by simp [Value.oneCell']) #[.int .i64 SG.n, .slice at_ mt ct, .int .i64 SG.i, .slice ap2 np2 cp2, .slice aq2 nq2 cq2] rfl ?_; intro w11 G11 K11a; have K11 : Kp [] w10 w11 := ((Kp.refl [] w10).alloc _).then K11a (fun i hi => .inr (by simp at hi; omega)); have c2 : w11.cell? ⟨w10.heap.size, 1, none⟩ = some (.slice at_ mt ct) := (by rw [cell_of_row w11 _ 1 _ _ _ G11]; rfl); have hcv2 := (HSt.out.kept K11 (by simp)).conv (P := Tryz.prog) 29 9 5 Tryz.underlying29 Tryz.underlying5 Tryz.underlying9; rw [← HSS.out] at hcv2; have HL11 := hide (HL10.out.on K11); have HRt2 := hide (uroot_any HL11.out r (by rw [HI5.out]; exact HR.out) (HG.out.kept HL11.out.kp (by simp))); clear K11a K11 G11)
            refine HRt2.out.mono ?_
            rintro ee w12 ⟨a12, m12, c12, rfl, R12, K12⟩
            have hcv3 := R12.sl.conv (P := Tryz.prog) 29 9 5 Tryz.underlying29 Tryz.underlying5 Tryz.underlying9
            rw [← HSS.out] at hcv3
            have HL12 := hide (HL11.out.on K12)
            have HZ := hide (usize_any HL12.out (ma : Int) (by rw [HI5.out, HIl.out, HMk.out]))
            clear HRt2 R12 K12
            go_wp2_with fail
            refine HZ.out.mono ?_
            rintro ee w13 ⟨rfl, hw13⟩
            subst w13
            have HKn := hide (uknown_any w12 (HG.out.kept HL12.out.kp (by simp)))
            clear HZ
            go_wp2_with fail
            refine HKn.out.mono ?_
            rintro ee w14 ⟨rfl, K14⟩
            have HK14 := hide (HL12.out.kp.trans K14)
            clear HKn K14
            go_wp2_with fail
            go_ret
            exact ⟨rfl, HK14.out.below (Nat.le_refl _) (by simp)⟩
set_option maxRecDepth 100000 in
theorem lifted (os : Os) (started : os.Started) (H : Type) (enc : TypeId × Value → H) :
    ReturnsInHanded {} Tryz.checked os 5 .any (fun w args => (Rows.ledgerGivenSpec.pre enc Tryz.prog Tryz.f5 [] false w args ∧ laidMetH Tryz.prog laid1 w) ∧ sizedMet enc Tryz.prog Tryz.f5 (OpenSpec.ofChange Rows.ledgerGivenSpec) false w args) (Rows.ledgerGivenSpec.post enc Tryz.prog Tryz.f5 false true false false) := by
  refine returnsInHanded_of_change_and (C := Tryz.checked) (X := fun w _ => laidMetH Tryz.prog laid1 w) (fun _ _ _ hh h => h.of_heap hh) own started (by kernel_rfl) Tryz.func5
    (ChangeSpec.witness_shaped (enc := enc) (C := Tryz.checked) (os := os) (X := fun w _ => laidMetH Tryz.prog laid1 w) false (World.doorLaid Tryz.prog 400 os) #[.slice none 0 0] 8 rfl (World.shaped_of_RefB (by kernel_rfl) (by kernel_rfl)) (by kernel_rfl) (by kernel_rfl) (by kernel_rfl) (door_met os _)) ?_
  intro W base args ds gs before hval0 hW hcnd hsz0 hL _
  have hG := gl_of_laid hL
  have hval : ∀ (j : Nat) t v, Tryz.f5.params[j]? = some t → args[j]? = some v → Value.okWide Tryz.prog W .any base t v := hval0
  have hW' := hW
  obtain ⟨p, q, hA0, hV, rfl, hfz, hnd⟩ := hW
  have hA : DataW.TrodAll enc Tryz.prog W 0 (fun _ => true) true Tryz.f5.params.toList args.toList ds p := hA0
  rw [Tryz.params5] at hA hval
  obtain ⟨v0, vs0, d0, ds0, p0, q0, hargs, rfl, rfl, h0, r0⟩ := trodAll_cons hA
  obtain ⟨rfl, rfl, rfl⟩ := trodAll_nil r0
  obtain rfl : args = #[v0] := by cases args; simp_all
  obtain ⟨rfl, rfl⟩ := trodVars_none hV
  obtain ⟨a0, len0, cap0, rfl⟩ := okWide_slice Tryz.underlying31 (hval 0 31 v0 rfl rfl)
  have k0 := h0
  have lt0 : ∀ x ∈ p0, x.block < W.heap.size := by obtain ⟨m, hm⟩ := k0; exact DataW.trod_lt m _ _ _ hm
  obtain ⟨l0, s0⟩ : ∃ l, Lists W (.slice a0 len0 cap0) l := by
    obtain ⟨fuel, hf⟩ := h0
    exact lists_of_trod (by simpa [Value.cells] using hf)
  clear hA0 hval0
  refine (walk (.slice a0 len0 cap0) l0 W hG s0).mono fun e W' ⟨he, bel⟩ => ?_
  subst he
  exact ⟨_, rfl, _, _, _, [], _, [], hW', trodAll_mk1 (shut_bool Tryz.underlying4 _), (trodAll_cons_mk (Below.trod laidOut (by kernel_rfl) (of_decide_eq_true (by kernel_rfl)) k0 bel lt0) trodAll_mk0), rfl, bel.frame _, fun h => by cases h⟩
theorem over : Rows.ledgerGivenRow.holds Tryz.pinned (OpenSpec.ofChange Rows.ledgerGivenSpec) :=
  OpenClaim.holds_of_wide 5 Tryz.f5 rfl rfl rfl rfl rfl rfl rfl ⟨rfl, rfl, rfl, rfl, rfl⟩ rfl rfl rfl rfl rfl (by kernel_rfl) Tryz.func5 (by kernel_rfl)
    (of_decide_eq_true (by kernel_rfl)) (by unfold Func.isWrapper; first | (rw [if_pos (by decide +kernel)]; kernel_rfl) | (rw [if_neg (by decide +kernel)]; exact ⟨rfl, rfl⟩))
    (fun os started H enc _ => lifted os started H enc)
end Go.Proofs.YtillhpgdlmeajabGreatDoor.ledgerGiven
namespace Go.Proofs.YtillhpgdlmeajabGreatDoor
/-- The given statement: the tied card. -/
theorem LedgerGiven_holds : Rows.LedgerGivenCardSaid :=
  Claim7.holds_tied_plain_at .later [] [.data] true Rows.ledgerGivenCard.stood.harness false
    ledgerGiven.over (fun _ h => by cases h) (by kernel_rfl) (fun _ h => by cases h) ledgerGiven_row_tie rfl ⟨rfl, rfl⟩ (by kernel_rfl) rfl
    (fun f fn hf hfn => by
      obtain rfl : f = 5 := Option.some.inj ((show Tryz.prog.funcNamed "broadsheet/broadsheetlaw15.LedgerGiven" = some 5 by kernel_rfl).symm.trans hf) |>.symm
      obtain rfl : fn = Tryz.f5 := (Option.some.inj (Tryz.func5.symm.trans hfn)).symm
      exact ⟨by kernel_rfl, fun j t ht => by
        rw [Tryz.params5] at ht
        have hm : t ∈ ([31] : List TypeId) := by simpa using Array.mem_of_getElem? ht
        have hall : (([31] : List TypeId).all fun u => !Tryz.prog.wantsStandIn u) = true := by kernel_rfl
        exact (show Tryz.prog.wantsStandIn t = false by simpa using List.all_eq_true.1 hall t hm)⟩)
    (by kernel_rfl)
#print axioms LedgerGiven_holds
end Go.Proofs.YtillhpgdlmeajabGreatDoor
