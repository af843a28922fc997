/-
  JournalCrashes: behind a crash a journal has all records that were Added, and of those Put since the first ones, whole; and goes on from there.
-/
import Derived.Test.YtmpjgbckehnkjaaKJApp
import Derived.ShutString
import Derived.ChangeOld
import Derived.Below
namespace Go.Proofs.Ytmpjgbckehnkjaa.journalCrashes
open Go.ChangeShapes Go.WideShapes Go.ChangeAt Go.RowKit
open Go.Proofs.Ytmpjgbckehnkjaa
set_option linter.unusedVariables false

theorem own : ownKnob Try.prog.godebug = none := by kernel_rfl
theorem laidOut : laidOutB Try.prog = true := by kernel_rfl
set_option maxHeartbeats 8000000 in
set_option maxRecDepth 100000 in
theorem walk (v0 : Value) (l0 : List (Value × List Int)) (v1 : Value) (l1 : List (Value × List Int)) (keep : Int) (w : World) (s0 : Lists w v0 l0) (s1 : Lists w v1 l1) (hkp : -9223372036854775808 ≤ keep ∧ keep ≤ 9223372036854775807) :
    Calls Try.prog 6 #[v0, v1, .int .i64 keep] w fun e w' => e = .returned (.bool true) ∧ Below w.heap.size w w' := by
  have HF := hide (few_k v0 l0 10 40 w s0 (by omega))
  have HF1 := hide (fun w' (k : Kp [] w w') => few_k v1 l1 10 40 w' (s1.kept k) (by omega))
  obtain ⟨al0, cl0, e0, -⟩ := id s0
  obtain ⟨L0, hL0⟩ : ∃ L, L = l0.length := ⟨_, rfl⟩
  rw [← hL0] at e0
  subst e0
  obtain ⟨al1, cl1, e1, -⟩ := id s1
  obtain ⟨L1, hL1⟩ : ∃ L, L = l1.length := ⟨_, rfl⟩
  rw [← hL1] at e1
  subst e1
  clear hL0 hL1 s0 s1
  go_enter Try.func6, Try.ntmps6
  go_wp2_with fail
  refine HF.out.mono ?_
  rintro ee w1 ⟨oa, ca, la, rfl, La, K1, hla, hsa, hra, hna⟩
  have HK1 := hide K1
  have HLa0 := hide La
  obtain ⟨LA, hLA⟩ : ∃ L, L = la.length := ⟨_, rfl⟩
  rw [← hLA] at hla hra HLa0 ⊢
  have HLA := hide hLA
  have HSa := hide hsa
  have HNa := hide hna
  clear La K1 hsa hLA HF hna
  go_wp2_with fail
  refine (HF1.out w1 HK1.out).mono ?_
  rintro ee w2 ⟨ob, cb, lb, rfl, Lb, K2, hlb, hsb, hrb, hnb⟩
  have HK2 := hide (HK1.out.trans K2)
  have HLa := hide (fun w' (k : Kp [] w2 w') => HLa0.out.kept (K2.trans k))
  obtain ⟨LB, hLB⟩ : ∃ L, L = lb.length := ⟨_, rfl⟩
  rw [← hLB] at hlb hrb Lb ⊢
  have HLb := hide (fun w' (k : Kp [] w2 w') => Lb.kept k)
  have HLB := hide hLB
  have HSb := hide hsb
  have HNb := hide hnb
  clear Lb K2 hsb hLB HF1 HLa0 hnb HK1
  obtain ⟨A, hA⟩ : ∃ A, A = la.map (·.2) := ⟨_, rfl⟩
  obtain ⟨B, hB⟩ : ∃ B, B = lb.map (·.2) := ⟨_, rfl⟩
  have hAl : A.length = LA := by rw [hA, HLA.out]; simp
  have hBl : B.length = LB := by rw [hB, HLB.out]; simp
  have HAs : Hid (∀ r ∈ A, r.length ≤ 40) := fun r hr => by
    rw [hA] at hr
    obtain ⟨x, hx, rfl⟩ := List.mem_map.1 hr
    exact HSa.out x hx
  have HBs : Hid (∀ r ∈ B, r.length ≤ 40) := fun r hr => by
    rw [hB] at hr
    obtain ⟨x, hx, rfl⟩ := List.mem_map.1 hr
    exact HSb.out x hx
  have HAl := hide hAl
  have HBl := hide hBl
  have HAt : Hid (∀ k (hk : k < LA), ∃ b off x, oa = some ⟨b, off, none⟩ ∧ A[k]? = some x ∧ Bs x ∧ ∀ w', Kp [] w2 w' → ∃ v, w'.cell? ⟨b, off + k, none⟩ = some v ∧ Sl w' v x) := fun k hk => by
    obtain ⟨ao', c', e', -, hcell⟩ := HLa.out w2 (Kp.refl _ _)
    injection e' with e1 e2 e3
    have hk2 : k < la.length := by have := HLA.out; omega
    obtain ⟨b, off, e, hc, hS, hB'⟩ := hcell k hk2
    refine ⟨b, off, (la[k]).2, by rw [e1]; exact e, by simp [hA, List.getElem?_eq_getElem hk2], hB', fun w' k' => ⟨_, k'.cell hc (by simp), hS.kept k' (by simp)⟩⟩
  have HBt : Hid (∀ k (hk : k < LB), ∃ b off x, ob = some ⟨b, off, none⟩ ∧ B[k]? = some x ∧ Bs x ∧ ∀ w', Kp [] w2 w' → ∃ v, w'.cell? ⟨b, off + k, none⟩ = some v ∧ Sl w' v x) := fun k hk => by
    obtain ⟨ao', c', e', -, hcell⟩ := HLb.out w2 (Kp.refl _ _)
    injection e' with e1 e2 e3
    have hk2 : k < lb.length := by have := HLB.out; omega
    obtain ⟨b, off, e, hc, hS, hB'⟩ := hcell k hk2
    refine ⟨b, off, (lb[k]).2, by rw [e1]; exact e, by simp [hB, List.getElem?_eq_getElem hk2], hB', fun w' k' => ⟨_, k'.cell hc (by simp), hS.kept k' (by simp)⟩⟩
  have HA := hide hA
  have HB := hide hB
  have hla' : (LA : Int) ≤ 10 := by omega
  have hlb' : (LB : Int) ≤ 10 := by omega
  have HOn := hide (on_any (.slice none 0 0) [] w2 (Sl.nil w2) (fun b hb => by cases hb) (by simp))
  clear hA hB hAl hBl
  go_wp2_with fail
  refine HOn.out.mono ?_
  rintro ee w3 ⟨p, v3, rfl, N3⟩
  have HOp := hide (open_ok N3 rfl (Int.le_refl 0) rfl opnP_nil opn0)
  simp only [List.length_nil] at HOp
  clear N3 HOn
  go_wp2_with fail
  refine HOp.out.mono ?_
  rintro ee w4 ⟨j, v4, a4, c4, l4, rfl, J4, -, -, -, -⟩
  have HJ4 := hide J4
  clear J4 HOp
  go_wp2_with fail
  go_loopw [11] (fun i wr => ∃ (k : Nat) (v : Value), k ≤ LA ∧ i = .int .i64 k ∧ Jn w2 wr p v (dkOn (layP (A.take k))) j k) (fun i _ => LA - (intOf i).toNat)
  case atStart => exact ⟨0, v4, by omega, rfl, HJ4.out⟩
  case round =>
    obtain ⟨k, v, hk, rfl, JK⟩ := hrel
    have HJ := hide JK
    clear JK
    by_cases hlt : k < LA
    · have hlt' : (k : Int) < (LA : Int) := by omega
      obtain ⟨b, off, x, rfl, hx, hB, hc⟩ := HAt.out k hlt
      obtain ⟨vx, hc1, hS⟩ := hc wr HJ.out.nw.kp
      have hka : k < A.length := by have := HAl.out; omega
      have hxe : A[k] = x := by rw [List.getElem?_eq_getElem hka] at hx; injection hx
      have hxl : x.length ≤ 40 := HAs.out x (by rw [← hxe]; exact List.getElem_mem _)
      have he : layP (A.take (k + 1)) = layP (A.take k) ++ recP x := by
        rw [List.take_succ_eq_append_getElem hka, layP_snoc, hxe]
      have hbl : (layP (A.take k)).length ≤ 480 := by
        have h1 := layP_len (A.take k) 40 (fun r hr => HAs.out r (List.mem_of_mem_take hr))
        have h2 : (A.take k).length ≤ 10 := by simp; omega
        exact Nat.le_trans h1 (Nat.mul_le_mul_right _ h2)
      have hrl : (recP x).length ≤ 48 := by rw [recP_len]; omega
      have HAd := hide (jadd_any HJ.out hS hB (by omega) (by omega) true (Dk.add_on _ _ (by omega)) 0 rfl (k + 1) (by rw [Dk.app_on _ _ (by omega), if_pos rfl]))
      rw [← he] at HAd
      obtain ⟨ax, cx, rfl, -⟩ := hS
      obtain ⟨nx, hnx⟩ : ∃ n, n = x.length := ⟨_, rfl⟩
      rw [← hnx] at hc1 HAd
      clear hB hc hx hxe hxl he hbl hrl hnx hka
      go_wp2_with (go_at_call 13; refine HAd.out.mono ?_; rintro ee w5 ⟨rfl, v5, J5, -⟩; have HJ5 := hide J5; clear HAd J5)
      go_roundw
      case rel => exact ⟨k + 1, v5, by omega, by go_num, HJ5.out⟩
      case measure => simp [intOf]; omega
    · obtain rfl : k = LA := by omega
      have hX : A.take k = A := List.take_of_length_le (by have := HAl.out; omega)
      rw [hX] at HJ
      have hlt' : ¬ (k : Int) < (k : Int) := by omega
      have hAlen : (layP A).length ≤ 480 := by
        have h1 := layP_len A 40 HAs.out
        have h2 : A.length ≤ 10 := by have := HAl.out; omega
        exact Nat.le_trans h1 (Nat.mul_le_mul_right _ h2)
      have HAlen := hide hAlen
      clear hX hAlen
      go_wp2_with fail
      go_loopw [12] (fun i wr => ∃ (m : Nat) (v : Value), m ≤ LB ∧ i = .int .i64 m ∧ Jn w2 wr p v ⟨layP (A ++ B.take m), (layP A).length, 1048576, 0, false⟩ j (k + m)) (fun i _ => LB - (intOf i).toNat)
      case atStart => exact ⟨0, v, by omega, rfl, by simpa [dkOn] using HJ.out⟩
      case round =>
        obtain ⟨m, v5, hm, rfl, JM⟩ := hrel
        have HJM := hide JM
        clear JM
        by_cases hltm : m < LB
        · have hltm' : (m : Int) < (LB : Int) := by omega
          obtain ⟨b, off, x, rfl, hx, hB, hc⟩ := HBt.out m hltm
          obtain ⟨vx, hc1, hS⟩ := hc wr HJM.out.nw.kp
          have hkb : m < B.length := by have := HBl.out; omega
          have hxe : B[m] = x := by rw [List.getElem?_eq_getElem hkb] at hx; injection hx
          have hxl : x.length ≤ 40 := HBs.out x (by rw [← hxe]; exact List.getElem_mem _)
          have he : layP (A ++ B.take (m + 1)) = layP (A ++ B.take m) ++ recP x := by
            rw [List.take_succ_eq_append_getElem hkb, ← List.append_assoc, layP_snoc, hxe]
          have hbl : (layP (A ++ B.take m)).length ≤ 960 := by
            have h1 := layP_len (B.take m) 40 (fun r hr => HBs.out r (List.mem_of_mem_take hr))
            have h2 : (B.take m).length ≤ 10 := by simp; omega
            have h3 := Nat.le_trans h1 (Nat.mul_le_mul_right _ h2)
            have := HAlen.out
            rw [layP_append, List.length_append]
            omega
          have hrl : (recP x).length ≤ 48 := by rw [recP_len]; omega
          have happ : (⟨layP (A ++ B.take m), (layP A).length, 1048576, 0, false⟩ : Dk).app (recP x) = (true, ⟨layP (A ++ B.take (m + 1)), (layP A).length, 1048576, 0, false⟩) := by
            rw [Dk.app_plain rfl (Int.le_refl 0) _ (by show (((layP (A ++ B.take m)).length + (recP x).length : Nat) : Int) ≤ 1048576; omega), he]
          have HPd := hide (jput_any HJM.out hS hB (by omega) (by omega) true happ 0 rfl (k + (m + 1)) rfl)
          obtain ⟨ax, cx, rfl, -⟩ := hS
          obtain ⟨nx, hnx⟩ : ∃ n, n = x.length := ⟨_, rfl⟩
          rw [← hnx] at hc1 HPd
          clear hB hc hx hxe hxl he hbl hrl hnx hkb happ
          go_wp2_with (go_at_call 14; refine HPd.out.mono ?_; rintro ee w5 ⟨rfl, v6, J6, -⟩; have HJ6 := hide J6; clear HPd J6)
          go_roundw
          case rel => exact ⟨m + 1, v6, by omega, by go_num, HJ6.out⟩
          case measure => simp [intOf]; omega
        · obtain rfl : m = LB := by omega
          have hX : B.take m = B := List.take_of_length_le (by have := HBl.out; omega)
          rw [hX] at HJM
          have hltm' : ¬ (m : Int) < (m : Int) := by omega
          obtain ⟨q, jj, hq, hcr, hj1, hj2, hop, hopn⟩ := crash_lay A B keep (fun r hr => Nat.le_trans (HAs.out r hr) (by omega)) (fun r hr => Nat.le_trans (HBs.out r hr) (by omega))
          have hjA : (k : Int) ≤ (jj : Int) := by have := HAl.out; omega
          have hjB : (jj : Int) ≤ (k : Int) + (m : Int) := by have := HAl.out; have := HBl.out; omega
          obtain ⟨rs, hrs⟩ : ∃ rs, rs = (A ++ B).take jj := ⟨_, rfl⟩
          rw [← hrs] at hop hopn
          have hrl : rs.length = jj := by rw [hrs]; simp; omega
          have HRS := hide hrs
          have HRL := hide hrl
          have HOP := hide hop
          have HOPN := hide hopn
          have HCr := hide (nw_crash HJM.out.nw keep hcr)
          clear hX hcr hop hopn hrs hrl hq hj1 hj2
          go_wp2_with fail
          refine HCr.out.mono ?_
          rintro ee w6 ⟨rfl, v6, N6, -⟩
          have HO6 := hide (open_ok N6 rfl (Int.le_refl 0) rfl HOP.out HOPN.out)
          rw [HRL.out] at HO6
          clear N6 HCr HJM
          go_wp2_with fail
          refine HO6.out.mono ?_
          rintro ee w7 ⟨j7, v7, a7, c7, l7, rfl, J7, -, -, P7, hl7⟩
          have HJ7 := hide J7
          have HP7 := hide P7
          have HL7 := hide hl7
          clear J7 P7 hl7 HO6
          have ka : Kp [] w7 (w7.alloc (.cells #[] 22)) := (Kp.refl [] w7).alloc _
          have hr0 := rowv_none w7
          have hLa7 := HLa.out _ (HJ7.out.nw.kp.trans ka)
          have hbl : ([] : List Value).length + la.length ≤ 1000000 := by have := HLA.out; simp; omega
          have hbl2 : (la.map (·.1)).length + lb.length ≤ 1000000 := by have := HLA.out; have := HLB.out; simp; omega
          have hwkm : IntKind.i64.wrap ((k : Int) + (m : Int)) = (k : Int) + (m : Int) := by simp [IntKind.wrap, IntKind.signed, IntKind.bits]; omega
          have hnA : decide ((jj : Int) < (k : Int)) = false := decide_eq_false (by omega)
          have hnB : decide ((k : Int) + (m : Int) < (jj : Int)) = false := decide_eq_false (by omega)
          go_wp2_with (first
            | (at_builtin; refine wpList_wanted (by simp [Region.wanted, yielded] <;> omega) ?_; refine wpList_append_list rfl (.tmp 98) (.tmp 99) rfl w7.heap.size _ [] rfl hr0 oa k ca la rfl hLa7 HNa.out hbl (by simp) ?_; intro a8 m8 c8 w8 R8 S8; have HK78 : Hid (Kp [] w7 w8) := S8.kpv ka hr0; rw [List.nil_append] at R8; have HR8 := hide R8; have hLb8 := HLb.out w8 (HJ7.out.nw.kp.trans HK78.out); clear R8 S8 hr0 hLa7 ka hbl)
            | (at_builtin; refine wpList_wanted (by simp [Region.wanted, yielded] <;> omega) ?_; refine wpList_append_list rfl (.tmp 100) (.tmp 101) rfl w7.heap.size _ _ rfl HR8.out ob m cb lb rfl hLb8 HNb.out hbl2 HK78.out.size ?_; intro a9 m9 c9 w9 R9 S9; have HK79 : Hid (Kp [] w7 w9) := S9.kpv HK78.out HR8.out; rw [← List.map_append] at R9; have HR9 := hide R9; have hrm := R9.room; have hj9 : (jj : Int) ≤ (c9 : Int) := (by have := hrm.1; have h2 := hrm.2; have := HLA.out; have := HLB.out; simp at h2; omega); clear R9 S9 hLb8 hrm HR8 HK78))
          have hrl := HRL.out
          have hLx : Lists w9 (.slice a9 jj c9) ((la ++ lb).take jj) := by
            have hl : (la ++ lb).length = k + m := by have := HLA.out; have := HLB.out; simp; omega
            exact lists_head (lists_of_rowv HR9.out (by omega) (fun x hx => by
              rcases List.mem_append.1 hx with hx | hx
              · exact (HLa.out w9 (HJ7.out.nw.kp.trans HK79.out)).at x hx
              · exact (HLb.out w9 (HJ7.out.nw.kp.trans HK79.out)).at x hx)) jj (by omega)
          have hlm : l7.map (·.2) = ((la ++ lb).take jj).map (·.2) := by
            rw [HL7.out, HRS.out, HA.out, HB.out, ← List.map_append, List.map_take]
          have hl7n : l7.length ≤ 1000 := by
            have := congrArg List.length HL7.out
            rw [hrl] at this
            simp at this
            omega
          have HLs := hide (lists_any _ _ l7 _ hlm w9 ((HP7.out.parts.kept HK79.out).lists hl7n) hLx)
          have HL7n := hide hl7n
          clear hLx hlm hrl hl7n
          refine HLs.out.mono ?_
          rintro ee w10 ⟨rfl, K10⟩
          have HJ10 := hide (HJ7.out.on (HK79.out.trans K10))
          have HP10 := hide (HP7.out.step (JSt.mid v7 (HK79.out.trans K10)))
          clear K10 HLs HK79 HJ7 HP7 HR9
          have cv1 := lit_cv w10 [110, 101, 120, 116] 4 rfl
          simp only [List.map_cons, List.map_nil] at cv1
          have hblr : (layP rs).length ≤ 2000 := by
            have h1 := layP_len rs 40 (fun r hr => by
              rw [HRS.out] at hr
              rcases List.mem_append.1 (List.mem_of_mem_take hr) with h | h
              · exact HAs.out r h
              · exact HBs.out r h)
            have h2 : rs.length ≤ 20 := by have := HRL.out; omega
            exact Nat.le_trans h1 (Nat.le_trans (Nat.mul_le_mul_right _ h2) (by omega))
          have hrn : (recP [110, 101, 120, 116]).length = 12 := rfl
          have ka : Kp [] w10 (w10.alloc (.cells #[.int .u8 110, .int .u8 101, .int .u8 120, .int .u8 116] 5 (4, 5))) := (Kp.refl [] w10).alloc _
          have HAd := hide (jadd_any (HJ10.out.on ka) (lit_sl w10 [110, 101, 120, 116] 4 (4, 5) rfl (by omega)) (fun b hb => by simp at hb; omega) (by simp) (by omega) true (Dk.add_on _ _ (by omega)) 0 rfl (jj + 1) (by rw [Dk.app_on _ _ (by omega), if_pos rfl]))
          have HP11 := hide (HP10.out.step (JSt.mid v7 ka))
          rw [← layP_snoc] at HAd
          clear hblr hrn ka HJ10 HP10
          have hrsn : ∀ r ∈ rs ++ [[110, 101, 120, 116]], r.length ≤ 65535 := fun r hr => by
            rcases List.mem_append.1 hr with h | h
            · rw [HRS.out] at h
              rcases List.mem_append.1 (List.mem_of_mem_take h) with h | h
              · exact Nat.le_trans (HAs.out r h) (by omega)
              · exact Nat.le_trans (HBs.out r h) (by omega)
            · obtain rfl : r = [110, 101, 120, 116] := by simpa using h
              simp
          have HOA := hide (opnP_all _ hrsn)
          have HOB := hide (Dk.opn_all _ hrsn)
          have hln : (rs ++ [[110, 101, 120, 116]]).length = jj + 1 := by rw [List.length_append, HRL.out]; rfl
          have HLN := hide hln
          clear hrsn hln
          go_wp2_with fail
          refine HAd.out.mono ?_
          rintro ee w11 ⟨rfl, v11, J11, T11⟩
          have HP12 := hide (HP11.out.step T11)
          have HCr := hide (nw_crash J11.nw 0 (crash0 _))
          clear J11 T11 HAd HP11 cv1
          go_wp2_with fail
          refine HCr.out.mono ?_
          rintro ee w12 ⟨rfl, v12, N12, T12⟩
          have HP13 := hide (HP12.out.step (T12.jst (j := j7)))
          have HO12 := hide (open_ok N12 rfl (Int.le_refl 0) rfl HOA.out HOB.out)
          rw [HLN.out] at HO12
          clear N12 T12 HCr HP12
          go_wp2_with fail
          refine HO12.out.mono ?_
          rintro ee w13 ⟨j13, v13, a13, c13, l13, rfl, J13, -, T13, P13, hl13⟩
          have HP14 := hide (HP13.out.step (T13.jst (j := j7))).parts
          have HJ13 := hide J13.nw.kp
          have HP13' := hide P13.parts
          have HL13 := hide hl13
          have hrm := P13.parts.1.room
          have hc13a : (jj : Int) ≤ (c13 : Int) := by omega
          have hl13n : l13.length = jj + 1 := by
            have := congrArg List.length hl13
            rw [HLN.out] at this
            simpa using this
          have hLm := P13.parts.lists (by omega)
          obtain ⟨ax, cx, ex, -, hcell⟩ := id hLm
          injection ex with ex1 ex2 ex3
          subst ex1
          obtain ⟨b13, off13, rfl, hc13, hS13, -⟩ := hcell jj (by omega)
          have he13 : (l13[jj]'(by omega)).2 = [110, 101, 120, 116] := by
            have h1 : (l13.map (·.2))[jj]? = some [110, 101, 120, 116] := by
              rw [hl13, List.getElem?_append_right (by have := HRL.out; omega), HRL.out]; simp
            simpa [List.getElem?_eq_getElem (show jj < l13.length by omega)] using h1
          obtain ⟨y, hy⟩ : ∃ y, y = (l13[jj]'(by omega)).1 := ⟨_, rfl⟩
          rw [he13, ← hy] at hS13
          rw [← hy] at hc13
          obtain ⟨ay, cy, rfl, -⟩ := id hS13
          have HC13 : Hid (∀ w', Kp [] w13 w' → w'.cell? ⟨b13, off13 + jj, none⟩ = some (.slice ay 4 cy) ∧ (convert 22 9 (.slice ay 4 cy)).run Try.prog w' = .ok (.string ⟨#[110, 101, 120, 116]⟩) w') := fun w' k' =>
            ⟨k'.cell hc13 (by simp), (hS13.kept k' (by simp)).conv 22 9 5 Try.underlying22 Try.underlying5 Try.underlying9⟩
          have hmap : (l13.take jj).map (·.2) = l7.map (·.2) := by
            rw [List.map_take, hl13, HL7.out, List.take_left' HRL.out]
          have HLs := hide (lists_any _ _ (l13.take jj) l7 hmap w13 (lists_head hLm jj (by omega)) (HP14.out.lists HL7n.out))
          have hcast : ((jj + 1 : Nat) : Int) = (jj : Int) + 1 := by omega
          have hwj : IntKind.i64.wrap ((jj : Int) + 1) = (jj : Int) + 1 := by simp [IntKind.wrap, IntKind.signed, IntKind.bits]; omega
          have hj0 : (0 : Int) ≤ (jj : Int) := by omega
          have hjl : (jj : Int) < (jj : Int) + 1 := by omega
          clear hmap hS13 hc13 hy he13 hcell hLm hrm hl13n hl13 P13 T13 J13 HO12 ex2 ex3 HP13'
          go_wp2_with (first
            | (go_at_call 28; refine HLs.out.mono ?_; rintro ee w14 ⟨rfl, K14⟩; obtain ⟨hcA, hcB⟩ := HC13.out w14 K14; have HK14 := hide (HJ13.out.trans K14); clear HLs K14)
            | (go_at_call 17; refine (jknown_any w14).mono ?_; rintro ee w15 ⟨rfl, K15⟩; have HK15 := hide (HK14.out.trans K15); clear K15))
          go_ret
          exact ⟨rfl, (HK2.out.trans HK15.out).below (Nat.le_refl _) (by simp)⟩

set_option maxRecDepth 100000 in
theorem lifted (os : Os) (started : os.Started) (H : Type) (enc : TypeId × Value → H) :
    ReturnsInHanded {} Try.checked os 6 .any (Rows.journalCrashesSpec.pre6 enc Try.prog Try.f6 Rows.journalCrashesRow.domain false) (Rows.journalCrashesSpec.post enc Try.prog Try.f6 false true false false) := by
  refine returnsInHanded_of_change (C := Try.checked) own started (by kernel_rfl) Try.func6
    (ChangeSpec.witness6 (enc := enc) (C := Try.checked) false ⟨#[], #[.slice none 0 0, .slice none 0 0, .int .i64 0], []⟩ 8 (by kernel_rfl) (by kernel_rfl) (by kernel_rfl) (by kernel_rfl)) ?_
  intro W base args ds gs before hval0 hW hcnd _
  have hval : ∀ (j : Nat) t v, Try.f6.params[j]? = some t → args[j]? = some v → Value.okWide Try.prog W .any base t v := hval0
  have hW' := hW
  obtain ⟨p, q, hA0, hV, rfl, hfz, hnd⟩ := hW
  have hA : DataW.TrodAll enc Try.prog W 0 (fun _ => true) true Try.f6.params.toList args.toList ds p := hA0
  rw [Try.params6] at hA hval
  obtain ⟨v0, vs0, d0, ds0, p0, q0, hargs, rfl, rfl, h0, r0⟩ := trodAll_cons hA
  obtain ⟨v1, vs1, d1, ds1, p1, q1, rfl, rfl, rfl, h1, r1⟩ := trodAll_cons r0
  obtain ⟨v2, vs2, d2, ds2, p2, q2, rfl, rfl, rfl, h2, r2⟩ := trodAll_cons r1
  obtain ⟨rfl, rfl, rfl⟩ := trodAll_nil r2
  obtain rfl : args = #[v0, v1, v2] := by cases args; simp_all
  obtain ⟨rfl, rfl⟩ := trodVars_none hV
  obtain ⟨a0, len0, cap0, rfl⟩ := okWide_slice Try.underlying24 (hval 0 24 v0 rfl rfl)
  have k0 := h0
  have lt0 : ∀ x ∈ p0, x.block < W.heap.size := by obtain ⟨m, hm⟩ := k0; exact DataW.trod_lt m _ _ _ hm
  obtain ⟨l0, s0⟩ : ∃ l, Lists W (.slice a0 len0 cap0) l := by
    obtain ⟨fuel, hf⟩ := h0
    exact lists_of_trod (by simpa [Value.cells] using hf)
  obtain ⟨a1, len1, cap1, rfl⟩ := okWide_slice Try.underlying24 (hval 1 24 v1 rfl rfl)
  have k1 := h1
  have lt1 : ∀ x ∈ p1, x.block < W.heap.size := by obtain ⟨m, hm⟩ := k1; exact DataW.trod_lt m _ _ _ hm
  obtain ⟨l1, s1⟩ : ∃ l, Lists W (.slice a1 len1 cap1) l := by
    obtain ⟨fuel, hf⟩ := h1
    exact lists_of_trod (by simpa [Value.cells] using hf)
  obtain ⟨a2, rfl, rfl, rfl, w2⟩ := open_int Try.underlying3 (hval 2 3 v2 rfl rfl) h2
  clear hA0 hval0
  refine (walk (.slice a0 len0 cap0) l0 (.slice a1 len1 cap1) l1 a2 W s0 s1 (bounds_i64 w2)).mono fun e W' ⟨he, bel⟩ => ?_
  subst he
  exact ⟨_, rfl, _, _, _, [], _, [], hW', trodAll_mk1 (shut_bool Try.underlying4 _), (trodAll_cons_mk (Below.trod laidOut (by kernel_rfl) (of_decide_eq_true (by kernel_rfl)) k0 bel lt0) (trodAll_cons_mk (Below.trod laidOut (by kernel_rfl) (of_decide_eq_true (by kernel_rfl)) k1 bel lt1) (trodAll_cons_mk (shut_int Try.underlying3 w2) trodAll_mk0))), rfl, bel.frame _, fun h => by cases h⟩

theorem over : Rows.journalCrashesRow.holds Try.pinned (OpenSpec.ofChange Rows.journalCrashesSpec) :=
  OpenClaim.holds_of_wide 6 Try.f6 rfl rfl rfl rfl rfl rfl rfl ⟨rfl, rfl, rfl, rfl, rfl⟩ rfl rfl rfl rfl rfl (by kernel_rfl) Try.func6 (by kernel_rfl)
    (of_decide_eq_true (by kernel_rfl)) (by unfold Func.isWrapper; first | (rw [if_pos (by decide +kernel)]; kernel_rfl) | (rw [if_neg (by decide +kernel)]; exact ⟨rfl, rfl⟩))
    (fun os started H enc _ => lifted os started H enc)
end Go.Proofs.Ytmpjgbckehnkjaa.journalCrashes

namespace Go.Proofs.Ytmpjgbckehnkjaa
/-- The given statement. -/
theorem JournalCrashes_holds : Rows.JournalCrashesSaid := journalCrashes.over
#print axioms JournalCrashes_holds
end Go.Proofs.Ytmpjgbckehnkjaa
