/-
  The statement LedgerDedupsCardSaid: for all lists of lists of numbers the law function LedgerDedups returns true and leaves its arguments as they were; the table hash.roundWords starts as the program's text lays it (tied). No other condition.
-/
import Derived.Deep.RegionHeld3
import Derived.SevenTiedAt
import Derived.Test.YtillhpgdlmeajabGreatDoorCards
import Derived.Test.YtillhpgdlmeajabGreatDoorTie
import Derived.Test.YtillhpgdlmeajabGreatDoorQB1
import Derived.Test.YtillhpgdlmeajabGreatDoorQB3
import Derived.Test.YtillhpgdlmeajabGreatDoorQB2
import Derived.Test.YtillhpgdlmeajabGreatDoorQLedgerDedups1
import Derived.Test.YtillhpgdlmeajabGreatDoorQB4
import Derived.Test.YtillhpgdlmeajabGreatDoorQB5
import Derived.Test.YtillhpgdlmeajabGreatDoorQB6
import Derived.Test.YtillhpgdlmeajabGreatDoorQB7
namespace Go.Proofs.YtillhpgdlmeajabGreatDoor.ledgerDedups
open Go.ChangeShapes Go.WideShapes Go.ChangeAt Go.RowKit
open Go.Proofs.YtillhpgdlmeajabGreatDoor
set_option linter.unusedVariables false
theorem itemX_ne (x : Int) : itemX x ≠ [] := by
  intro h
  have h1 := congrArg List.length h
  unfold itemX at h1
  rw [encM_len] at h1
  simp at h1
theorem ns_at (its xs : List (List Int)) (q : Nat) (hq : q < xs.length) (h' : q < (nsU its xs).length) : (nsU its xs)[q] = ((allU its (xs.take q)).idxOf xs[q] : Int) := by
  have e : xs = xs.take q ++ [xs[q]] ++ xs.drop (q + 1) := by rw [← List.take_succ_eq_append_getElem hq, List.take_append_drop]
  have h1 : allU its xs = allU (insU (allU its (xs.take q)) xs[q]) (xs.drop (q + 1)) := by
    conv => lhs; rw [e]
    rw [allU_append, allU_snoc]
  obtain ⟨t, ht⟩ := allU_pre (insU (allU its (xs.take q)) xs[q]) (xs.drop (q + 1))
  have h2 : (nsU its xs)[q] = ((allU its xs).idxOf xs[q] : Int) := by simp [nsU, numU]
  rw [h2, h1, ht, idx_pre (insU_mem _ _), idx_ins]
def Inv (w : World) (l pd pk k : Nat) (va : Value) (ma : Nat) (wr : World) : Prop := ∃ S f la, Lg w wr l pd pk S f ∧ Up S (400 * k) k ∧ Al w wr f.tot va la ∧ la.map (·.2) = S.its ∧ ma = la.length ∧ S.its.length ≤ 6 * k
def Mid (w : World) (l pd pk : Nat) (S6 : LS) (f6 : Fps) (W0 T : Nat) (vx : Value) (lx : List (Value × List Int)) (vr : Value) (its xs : List (List Int)) (q : Nat) (va : Value) (ma : Nat) (wq : World) : Prop :=
  ∃ la, Lg w wq l pd pk S6 f6 ∧ Al w wq f6.tot va la ∧ la.map (·.2) = allU its (xs.take q) ∧ ma = la.length ∧ (∀ k, va.ownBlock = some k → k < W0 ∨ T ≤ k) ∧ Xs wq W0 T vx lx ∧ RowI wq W0 vr (nsU its xs)
set_option maxRecDepth 100000 in
set_option maxHeartbeats 16000000 in
theorem walk (v : Value) (xss : List (Value × List Int)) (w : World) (hG : Gl w) (hL : Intss w v xss) :
    Calls Tryz.prog 3 #[v] w fun e w' => e = .returned (.bool true) ∧ Below w.heap.size w w' := by
  have HG := hide hG
  obtain ⟨al, cl, rfl, hlm, hcell⟩ := hL
  obtain ⟨N, hN⟩ : ∃ N, N = xss.length := ⟨_, rfl⟩
  have HC : Hid (∀ i (h : i < N), ∃ b off vx ys, al = some ⟨b, off, none⟩ ∧ w.cell? ⟨b, off + i, none⟩ = some vx ∧ Ints w vx ys) := fun i hi => by
    obtain ⟨b, off, e, hc, hI⟩ := hcell i (by omega)
    exact ⟨b, off, _, _, e, hc, hI⟩
  rw [← hN] at hlm ⊢
  have HF1 := hide (fresh_any w)
  clear hG hcell hN
  go_enter Tryz.func3, Tryz.ntmps3
  go_wp2_with fail
  refine HF1.out.mono ?_
  rintro ee w1 ⟨pd, rfl, N1⟩
  have HN1 := hide N1
  have HF2 := hide (fresh_any w1)
  clear HF1 N1
  go_wp2_with fail
  refine HF2.out.mono ?_
  rintro ee w2 ⟨pk, rfl, N2⟩
  have HN2 := hide N2
  have HSd := hide (xseed_any 1 w2)
  clear HF2 N2
  go_wp2_with fail
  refine HSd.out.mono ?_
  rintro ee w3 ⟨as_, ms, cs, rfl, R3, K3⟩
  have HO := hide (uopen_fresh HN1.out HN2.out K3 R3 (seedX_bs 1) (seedX_len 1))
  clear HSd R3 K3 HN1 HN2
  go_wp2_with fail
  refine HO.out.mono ?_
  rintro ee w4 ⟨l, rfl, f, L4⟩
  have HL4 := hide L4
  clear HO L4
  go_wp2_with fail
  go_loopw [5, 6] (fun va i wr => ∃ k : Nat, k ≤ N ∧ k ≤ 10 ∧ i = .int .i64 k ∧ ∃ aa ma ca, va = .slice aa ma ca ∧ Inv w l pd pk k (.slice aa ma ca) ma wr) (fun _ i _ => N - (intOf i).toNat)
  case atStart => exact ⟨0, by omega, by omega, rfl, none, 0, 0, rfl, _, f, [], HL4.out, up0 _, al_nil _ _ _, rfl, rfl, Nat.le_refl _⟩
  case round =>
    obtain ⟨k, hkN, hk10, rfl, aa, ma, ca, rfl, S0, f0, la, hLg, hU, hAl, hla, hma, hil⟩ := hrel
    have HLg := hide hLg
    have HU := hide hU
    have HAl := hide hAl
    have HLa := hide hla
    have HMa := hide hma
    have HIl := hide hil
    clear HL4 hLg hU hAl hla hma hil
    by_cases hlt : k < N ∧ k < 10
    · obtain ⟨hl1, hl2⟩ := hlt
      have hl1' : (k : Int) < (N : Int) := by omega
      have hl2' : (k : Int) < 10 := by omega
      have hd1 : decide ((k : Int) < (N : Int)) = true := decide_eq_true hl1'
      have hd2 : decide ((k : Int) < 10) = true := decide_eq_true hl2'
      obtain ⟨b0, o0, vy, ys0, rfl, hc, hI⟩ := HC.out k hl1
      have hcx := HLg.out.kp.cell hc (by simp)
      have hI' := hI.kept HLg.out.kp
      obtain ⟨ys, hys⟩ : ∃ y, y = ys0.take 6 := ⟨_, rfl⟩
      have HIt := hide (uitems_any vy ys0 ys hys wr hI')
      have hyl : ys.length ≤ 6 := by rw [hys, List.length_take]; omega
      have HYl := hide hyl
      obtain ⟨ay, cy, hvy, -⟩ := hI'
      obtain ⟨ny, hny⟩ : ∃ n, n = ys0.length := ⟨_, rfl⟩
      rw [← hny] at hvy
      subst hvy
      clear hc hI hys hyl hny
      go_wp2_with fail
      refine HIt.out.mono ?_
      rintro ee w5 ⟨ax, m, cx, rfl, K5, hm, lx, R5, hlx⟩
      obtain ⟨xs, hxs⟩ : ∃ x, x = ys.map itemX := ⟨_, rfl⟩
      rw [← hxs] at hlx
      have hxl : xs.length = m := by rw [hxs, List.length_map]; exact hm.symm
      have hm6 : m ≤ 6 := by rw [hm]; exact HYl.out
      have hx62 : ∀ x ∈ xs, x.length ≤ 62 := fun x hx => by
        rw [hxs] at hx
        obtain ⟨y, _, rfl⟩ := List.mem_map.1 hx
        exact itemX_len y
      have hxne : ∀ x ∈ xs, x ≠ [] := fun x hx => by
        rw [hxs] at hx
        obtain ⟨y, _, rfl⟩ := List.mem_map.1 hx
        exact itemX_ne y
      have hlxl : lx.length = m := by rw [← hxl, ← hlx, List.length_map]
      have hall := allU_le S0.its xs
      have HL5 := hide (HLg.out.on K5)
      have hU := HU.out
      have hil := HIl.out
      have HAd := hide (uadd_up HL5.out (400 * k) k 62 hU (by omega) (.slice ax m cx) lx xs hlx (R5.lists (by omega)) hx62 (by omega) (by omega) (by omega) (by omega) (by omega))
      have HR5 := hide R5
      have HK5 := hide K5
      have HXl := hide hxl
      have HLx := hide hlx
      have HNe := hide hxne
      have HLxl := hide hlxl
      have HM6 := hide hm6
      have HAlN := hide hall
      clear HIt K5 R5 hlx hxs hx62 hxne hlxl hall hU hil hm hxl HYl hm6
      go_wp2_with fail
      refine HAd.out.mono ?_
      rintro ee w6 ⟨vr, rfl, R6, S6, f6, L6, T6, ho6, U6, hits, -, -, -⟩
      obtain ⟨ar, cr, hvr⟩ := R6.shape
      rw [nsU_len, HXl.out] at hvr
      subst hvr
      have hft : ∀ i, f0.tot i → i < wr.heap.size := fun i hi => (HLg.out.lt i hi).2
      have HL6 := hide L6
      have HU6 : Hid (Up S6 (400 * (k + 1)) (k + 1)) := hide (by
        obtain ⟨⟨b, e1, e2⟩, e3, e4, e5⟩ := U6
        have := HXl.out
        have := HM6.out
        exact ⟨⟨b, e1, by omega⟩, e3, e4, e5⟩)
      have HI6 := hide hits
      have hs5 := HK5.out.size
      have hs6 := T6.size
      have HX6 : Hid (Xs w6 wr.heap.size w6.heap.size (.slice ax m cx) lx) := hide (by
        obtain ⟨U, hUf, kU⟩ := T6.kp
        refine ⟨HR5.out.kept kU (fun i hi => hft i (hUf i hi)), fun i hi => ?_, fun x hx i hi => ?_⟩
        · have := HR5.out.1.1.lt hi; omega
        · have h1 := (HR5.out.1.2 x hx).1
          have h2 : x.2 ∈ xs := by rw [← HLx.out]; exact List.mem_map.2 ⟨x, hx, rfl⟩
          have := sl_lt h1 (HNe.out _ h2) hi
          omega)
      have HXo : Hid (∀ x ∈ lx, ∀ i, x.1.ownBlock = some i → ¬ f6.tot i) := hide (fun x hx i hi => by
        have h1 := (HR5.out.1.2 x hx).1
        have h2 : x.2 ∈ xs := by rw [← HLx.out]; exact List.mem_map.2 ⟨x, hx, rfl⟩
        have h3 := sl_lt h1 (HNe.out _ h2) hi
        have h4 := HR5.out.2 x hx i hi
        exact T6.off h3 (fun e => by have := hft i e; omega))
      have HR6 : Hid (RowI w6 wr.heap.size (.slice ar m cr) (nsU S0.its xs)) := hide (R6.rebase (fun i hi => by have := (R6.lt hi).1; omega))
      have HRo : Hid (∀ i, (Value.slice ar m cr).ownBlock = some i → wr.heap.size ≤ i ∧ i < w6.heap.size) := hide (fun i hi => by have := (R6.lt hi); omega)
      have HA6 := hide ((HAl.out.on HK5.out).step T6)
      have HAo : Hid (∀ i, (Value.slice aa ma ca).ownBlock = some i → i < wr.heap.size ∨ w6.heap.size ≤ i) := hide (fun i hi => .inl (HAl.out.own i hi).1)
      obtain ⟨W0, hW0⟩ : ∃ x, x = wr.heap.size := ⟨_, rfl⟩
      obtain ⟨T, hT⟩ : ∃ x, x = w6.heap.size := ⟨_, rfl⟩
      rw [← hW0, ← hT] at HX6 HRo HAo
      rw [← hW0] at HR6
      have hW0w : w.heap.size ≤ W0 := by rw [hW0]; exact HLg.out.kp.size
      have HW0 := hide hW0w
      obtain ⟨its, hits0⟩ : ∃ x, x = S0.its := ⟨_, rfl⟩
      rw [← hits0] at HR6 HI6 HLa HIl HAlN
      have HNd : Hid (its.Nodup) := hide (by rw [hits0]; exact HLg.out.nd)
      have HTm : Hid (T ≤ w6.heap.size) := hide (by omega)
      clear HAd R6 L6 T6 ho6 U6 hits hft hs5 hs6 hW0 hT hW0w hits0 HL5 HR5 HK5 HAl HU HLg
      go_wp2_with fail
      go_loopw [5, 10] (fun va kk wq => ∃ q : Nat, q ≤ m ∧ kk = .int .i64 q ∧ ∃ aa ma ca, va = .slice aa ma ca ∧ T ≤ wq.heap.size ∧ Mid w l pd pk S6 f6 W0 T (.slice ax m cx) lx (.slice ar m cr) its xs q (.slice aa ma ca) ma wq) (fun _ kk _ => m - (intOf kk).toNat)
      case atStart => exact ⟨0, by omega, rfl, aa, ma, ca, rfl, HTm.out, la, HL6.out, HA6.out, HLa.out, HMa.out, HAo.out, HX6.out, HR6.out⟩
      case round =>
        clear HL6 HA6 HLa HMa HAo HX6 HR6
        have hm6 := HM6.out
        obtain ⟨q, hqm, rfl, aa, ma, ca, rfl, hTq, lq, hLg, hAl, hla, hma, hao, hX, hR⟩ := hrel
        have HLg := hide hLg
        have HAl := hide hAl
        have HLa := hide hla
        have HMa := hide hma
        have HAo := hide hao
        have HX := hide hX
        have HR := hide hR
        have HTq := hide hTq
        clear hLg hAl hla hma hao hX hR hTq
        by_cases hqlt : q < m
        · have hq' : (q : Int) < (m : Int) := by omega
          have hdq : decide ((q : Int) < (m : Int)) = true := decide_eq_true hq'
          have hqx : q < lx.length := by rw [HLxl.out]; exact hqlt
          have hqxs : q < xs.length := by rw [HXl.out]; exact hqlt
          have hmem : lx[q] ∈ lx := List.getElem_mem hqx
          have h2q : lx[q].2 = xs[q] := by
            have h1 : (lx.map (·.2))[q]? = xs[q]? := by rw [HLx.out]
            rw [List.getElem?_map, List.getElem?_eq_getElem hqx, List.getElem?_eq_getElem hqxs] at h1
            exact Option.some.inj h1
          obtain ⟨hSq, hBq, -⟩ := HX.out.row.1.2 lx[q] hmem
          have hoq := HX.out.row.2 lx[q] hmem
          have hoq2 := HX.out.its lx[q] hmem
          have hoq3 := HXo.out lx[q] hmem
          obtain ⟨bx, hbx⟩ : ∃ x, x = xs[q] := ⟨_, rfl⟩
          have htk : xs.take (q + 1) = xs.take q ++ [bx] := by rw [hbx]; exact List.take_succ_eq_append_getElem hqxs
          have hns : ∀ h', (nsU its xs)[q]'h' = ((allU its (xs.take q)).idxOf bx : Int) := fun h' => by rw [hbx]; exact ns_at its xs q hqxs h'
          rw [h2q, ← hbx] at hSq hBq
          obtain ⟨vq, hvq⟩ : ∃ x, x = lx[q].1 := ⟨_, rfl⟩
          rw [← hvq] at hSq hoq hoq2 hoq3
          have hSq' := hSq
          obtain ⟨aq, cq, hvq', -⟩ := hSq'
          obtain ⟨mq, hmq⟩ : ∃ n, n = bx.length := ⟨_, rfl⟩
          rw [← hmq] at hvq'
          subst hvq'
          obtain ⟨gx, hax, hcx2⟩ : ∃ b, ax = some ⟨b, 0, none⟩ ∧ wr.cell? ⟨b, q, none⟩ = some (.slice aq mq cq) := by
            obtain ⟨b, e, h1⟩ := HX.out.row.1.1.at q (by rw [List.length_map]; exact hqx)
            exact ⟨b, e, by rw [h1, List.getElem_map, ← hvq]⟩
          subst hax
          obtain ⟨gr, har, hcr⟩ := HR.out.at q (by rw [nsU_len]; exact hqxs)
          rw [hns] at hcr
          subst har
          have HTk := hide htk
          have HSq := hide hSq
          have HBq := hide hBq
          have HOq := hide hoq
          have HOq2 := hide hoq2
          have HOq3 := hide hoq3
          have hlq : lq.length ≤ 66 := by
            have h1 := congrArg List.length HLa.out
            rw [List.length_map] at h1
            have h2 := allU_le its (xs.take q)
            have h3 := HIl.out
            have h4 := HM6.out
            rw [List.length_take] at h2
            omega
          have hma66 : ma ≤ 66 := by rw [HMa.out]; exact hlq
          have HNq : Hid ((lq.map (·.2)).Nodup) := hide (by rw [HLa.out]; exact allU_nodup HNd.out)
          have HCr := hide hcr
          have HCx := hide hcx2
          clear htk hSq hBq hoq hoq2 hoq3 hns h2q hmem hqx hqxs hvq hbx hmq hcr hcx2 hlq
          go_wp2_with fail
          go_loopw [11, 12] (fun n j wz => ∃ i : Nat, i ≤ ma ∧ j = .int .i64 i ∧ ∃ nn : Int, n = .int .i64 nn ∧ Hid (nn = fdU ((lq.map (·.2)).take i) bx) ∧ Hid (Kp [] wr wz)) (fun _ j _ => ma - (intOf j).toNat)
          case atStart => exact ⟨0, by omega, rfl, -1, rfl, hide (by simp [fdU]), hide (Kp.refl _ _)⟩
          case round =>
            obtain ⟨i, him, rfl, nn, rfl, HNn, HKz⟩ := hrel
            by_cases hilt : i < ma
            · have hi' : (i : Int) < (ma : Int) := by omega
              have hdi : decide ((i : Int) < (ma : Int)) = true := decide_eq_true hi'
              have hiq : i < lq.length := by rw [← HMa.out]; exact hilt
              have HKd := hide (HKz.out.trans (kp_drew _))
              obtain ⟨hSi, hBi, -⟩ := HAl.out.row.1.2 lq[i] (List.getElem_mem hiq)
              obtain ⟨ga, haa, hca⟩ := HAl.out.row.1.1.at i (by rw [List.length_map]; exact hiq)
              rw [List.getElem_map] at hca
              subst haa
              have d1 := HKd.out.cell hca (by simp)
              have d2 := HKd.out.cell HCx.out (by simp)
              have v1 := (hSi.kept HKd.out (by simp)).conv (P := Tryz.prog) 29 9 5 Tryz.underlying29 Tryz.underlying5 Tryz.underlying9
              have v2 := (HSq.out.kept HKd.out (by simp)).conv (P := Tryz.prog) 29 9 5 Tryz.underlying29 Tryz.underlying5 Tryz.underlying9
              have htk : (lq.map (·.2)).take (i + 1) = (lq.map (·.2)).take i ++ [lq[i].2] := by
                have := List.take_succ_eq_append_getElem (l := lq.map (·.2)) (i := i) (by rw [List.length_map]; exact hiq)
                rw [this, List.getElem_map]
              have hnd2 : ((lq.map (·.2)).take (i + 1)).Nodup := (List.take_sublist _ _).nodup HNq.out
              obtain ⟨bi, hbi⟩ : ∃ x, x = lq[i].2 := ⟨_, rfl⟩
              obtain ⟨vi, hvi⟩ : ∃ x, x = lq[i].1 := ⟨_, rfl⟩
              rw [← hbi] at hSi hBi v1 htk
              rw [← hvi] at hSi d1 v1
              obtain ⟨ai, ci, hvi', -⟩ := hSi
              obtain ⟨mi, hmi⟩ : ∃ n, n = bi.length := ⟨_, rfl⟩
              rw [← hmi] at hvi'
              subst hvi'
              have HTi := hide htk
              rw [htk] at hnd2
              have HNi := hide hnd2
              have hli : ((lq.map (·.2)).take i).length = i := by rw [List.length_take, List.length_map]; omega
              have HLi := hide hli
              by_cases hxy : bi = bx
              · subst hxy
                obtain ⟨S1, hS1⟩ : ∃ S, S = strOfNums bi := ⟨_, rfl⟩
                rw [← hS1] at v1 v2
                clear hS1 hbi hvi hmi htk hnd2 hca hli hBi hiq
                go_wp2_with fail
                refine region_read Tryz.mixed (by kernel_rfl) ?_
                repeat (first | go_big_quiet_skip | (go_big_quiet_want; go_big_quiet_op; go_big_quiet_on))
                refine wpQuiet_nil ?_
                go_wp2_with fail
                go_roundw
                case rel => exact ⟨i + 1, by omega, by go_num, _, rfl, hide (by rw [HTi.out, fdU_hit HNi.out, HLi.out]), HKd⟩
                case measure => simp [intOf]; omega
              · have hss := str_beq bi bx hBi HBq.out
                rw [decide_eq_false hxy] at hss
                have HXy := hide hxy
                obtain ⟨S1, hS1⟩ : ∃ S, S = strOfNums bi := ⟨_, rfl⟩
                obtain ⟨S2, hS2⟩ : ∃ S, S = strOfNums bx := ⟨_, rfl⟩
                rw [← hS1, ← hS2] at hss
                rw [← hS1] at v1
                rw [← hS2] at v2
                clear hS1 hS2 hbi hvi hmi htk hnd2 hca hli hBi hiq hxy
                go_wp2_with fail
                refine region_read Tryz.mixed (by kernel_rfl) ?_
                repeat (first | go_big_quiet_skip | (go_big_quiet_want; go_big_quiet_op; go_big_quiet_on))
                refine wpQuiet_nil ?_
                go_wp2_with fail
                go_roundw
                case rel => exact ⟨i + 1, by omega, by go_num, nn, rfl, hide (by rw [HTi.out, fdU_miss HXy.out]; exact HNn.out), HKd⟩
                case measure => simp [intOf]; omega
            · obtain rfl : i = ma := by omega
              have hi' : ¬ (i : Int) < (i : Int) := by omega
              have hdi : decide ((i : Int) < (i : Int)) = false := decide_eq_false hi'
              have hnn : nn = fdU (allU its (xs.take q)) bx := by rw [HNn.out, ← HLa.out, List.take_of_length_le (by rw [List.length_map, HMa.out]; omega)]
              have HLz := hide (HLg.out.on HKz.out)
              have HAz := hide (HAl.out.on HKz.out)
              have HXz := hide (HX.out.kept HKz.out (by simp))
              have HRz := hide (HR.out.kept HKz.out (by simp))
              have hcz := HKz.out.cell HCr.out (by simp)
              have hcxz := HKz.out.cell HCx.out (by simp)
              have hTz : Hid (T ≤ wr.heap.size) := hide (Nat.le_trans HTq.out HKz.out.size)
              by_cases hmm : bx ∈ allU its (xs.take q)
              · have hn2 : nn = ((allU its (xs.take q)).idxOf bx : Int) := by rw [hnn]; unfold fdU; rw [if_pos hmm]
                have hn0 : ¬ nn < 0 := by rw [hn2]; omega
                have hdn : decide (nn < 0) = false := decide_eq_false hn0
                rw [← hn2] at hcz
                have HMm := hide hmm
                clear hmm hnn hn2 HNn
                go_wp2_with fail
                go_roundw
                case rel =>
                  refine ⟨q + 1, by omega, by go_num, aa, i, ca, rfl, hTz.out, lq, HLz.out, HAz.out, ?_, HMa.out, HAo.out, HXz.out, HRz.out⟩
                  rw [HTk.out, allU_snoc, insU_old HMm.out]
                  exact HLa.out
                case measure => simp [intOf]; omega
              · have hn2 : nn = -1 := by rw [hnn]; unfold fdU; rw [if_neg hmm]
                have hidx : ((allU its (xs.take q)).idxOf bx : Int) = (i : Int) := by
                  rw [idx_none hmm, ← HLa.out, List.length_map, ← HMa.out]
                rw [hidx] at hcz
                have HMm := hide hmm
                subst hn2
                have hlq : lq.length ≤ 1000000 := by rw [← HMa.out]; omega
                have HWs := hide (HLz.out.kp.size)
                have HSz := hide (HSq.out.kept HKz.out (by simp))
                have hap : ∀ j, (Value.slice aq mq cq).ownBlock = some j → (Value.slice aa i ca).ownBlock ≠ some j := fun j h1 h2 => by
                  have h3 := HOq.out j h1
                  have h4 := HOq2.out j h1
                  have h5 := HAo.out j h2
                  omega
                have HAp := hide hap
                have HNb : Hid (∀ j, (Value.slice aq mq cq).ownBlock = some j → w.heap.size ≤ j) := hide (fun j h1 => Nat.le_trans HW0.out (HOq.out j h1))
                clear hmm hnn hidx HNn hap
                go_wp2_with (
                  at_builtin
                  refine wpList_rowsR rfl (.tmp 84) (.tmp 89) rfl (.slice aa i ca) lq rfl HAz.out.row HWs.out hlq (.slice aq mq cq) bx HSz.out HAp.out HNb.out HBq.out rfl ?_
                  intro a7 m7 c7 w7 hm7 P7 S7
                  have hs7 := S7.1.size
                  have hcz7 := S7.1.cell hcz (fun hm => by
                    have h1 := HRo.out gr rfl
                    have h2 := HAo.out gr (by simpa [Option.mem_toList] using hm)
                    omega)
                  have HA7 := hide (HAz.out.put (x := (.slice aq mq cq, bx)) (fun j e => (HLz.out.lt j e).2) P7 S7 (fun j h1 => ⟨by have := HOq2.out j h1; have := hTz.out; omega, HOq3.out j h1⟩))
                  have HL7 := hide (HLz.out.beside S7.1 (fun j hj => by
                    have h1 : (Value.slice aa i ca).ownBlock = some j := by simpa [Option.mem_toList] using hj
                    exact ⟨HAz.out.row.1.1.own j h1, (HAz.out.own j h1).2⟩))
                  have HX7 := hide (HXz.out.kept S7.1 (fun j hj => HAo.out j (by simpa [Option.mem_toList] using hj)))
                  have HR7 := hide (HRz.out.kept S7.1 (fun j h1 hj => by
                    have h2 := HAo.out j (by simpa [Option.mem_toList] using hj)
                    have h3 := HRo.out j h1
                    omega))
                  have HO7 : Hid (∀ j, (Value.slice a7 m7 c7).ownBlock = some j → j < W0 ∨ T ≤ j) := hide (fun j hj => by
                    rcases S7.2 j hj with h1 | h1
                    · exact HAo.out j h1
                    · have := hTz.out; exact .inr (by omega))
                  have HT7 : Hid (T ≤ w7.heap.size) := hide (Nat.le_trans hTz.out hs7)
                  have HM7 : Hid (m7 = lq.length + 1) := hide hm7
                  clear P7 S7 hs7 hcz hcxz hm7)
                go_roundw
                case rel =>
                  refine ⟨q + 1, by omega, by go_num, a7, m7, c7, rfl, HT7.out, lq ++ [(.slice aq mq cq, bx)], HL7.out, HA7.out, ?_, ?_, HO7.out, HX7.out, HR7.out⟩
                  · rw [HTk.out, allU_snoc, insU_new HMm.out, List.map_append, HLa.out]; rfl
                  · rw [List.length_append]; exact HM7.out
                case measure => simp [intOf]; omega
        · obtain rfl : q = m := by omega
          have hq' : ¬ (q : Int) < (q : Int) := by omega
          have hdq : decide ((q : Int) < (q : Int)) = false := decide_eq_false hq'
          go_wp2_with fail
          go_roundw
          case rel =>
            refine ⟨k + 1, by omega, by omega, by go_num, aa, ma, ca, rfl, S6, f6, lq, HLg.out, HU6.out, HAl.out, ?_, HMa.out, ?_⟩
            · rw [HLa.out, HI6.out, List.take_of_length_le (by rw [HXl.out]; omega)]
            · have h1 := HAlN.out; have h2 := HIl.out; have h3 := HXl.out; have h4 := HM6.out; rw [HI6.out]; omega
          case measure => simp [intOf]; omega
    · have hsz : ((la.length : Nat) : Int) = S0.its.length := by rw [← HLa.out, List.length_map]
      have HZ := hide (usize_any HLg.out (ma : Int) (by rw [HMa.out]; exact hsz))
      have HKn := hide (uknown_any wr (HG.out.kept HLg.out.kp (by simp)))
      have HK := hide HLg.out.kp
      clear hsz
      by_cases hl1 : k < N
      · have hl1' : (k : Int) < (N : Int) := by omega
        have hl2' : ¬ (k : Int) < 10 := by omega
        have hd1 : decide ((k : Int) < (N : Int)) = true := decide_eq_true hl1'
        have hd2 : decide ((k : Int) < 10) = false := decide_eq_false hl2'
        go_wp2_with fail
        refine HZ.out.mono ?_
        rintro ee w8 ⟨rfl, hw8⟩
        subst w8
        clear HZ
        go_wp2_with fail
        refine HKn.out.mono ?_
        rintro ee w9 ⟨rfl, K9⟩
        have HK9 := hide (HK.out.trans K9)
        clear HKn K9
        go_wp2_with fail
        go_ret
        exact ⟨rfl, HK9.out.below (Nat.le_refl _) (by simp)⟩
      · have hl1' : ¬ (k : Int) < (N : Int) := by omega
        have hd1 : decide ((k : Int) < (N : Int)) = false := decide_eq_false hl1'
        go_wp2_with fail
        refine HZ.out.mono ?_
        rintro ee w8 ⟨rfl, hw8⟩
        subst w8
        clear HZ
        go_wp2_with fail
        refine HKn.out.mono ?_
        rintro ee w9 ⟨rfl, K9⟩
        have HK9 := hide (HK.out.trans K9)
        clear HKn K9
        go_wp2_with fail
        go_ret
        exact ⟨rfl, HK9.out.below (Nat.le_refl _) (by simp)⟩
set_option maxRecDepth 100000 in
theorem lifted (os : Os) (started : os.Started) (H : Type) (enc : TypeId × Value → H) :
    ReturnsInHanded {} Tryz.checked os 3 .any (fun w args => (Rows.ledgerDedupsSpec.pre enc Tryz.prog Tryz.f3 [] false w args ∧ laidMetH Tryz.prog laid1 w) ∧ sizedMet enc Tryz.prog Tryz.f3 (OpenSpec.ofChange Rows.ledgerDedupsSpec) false w args) (Rows.ledgerDedupsSpec.post enc Tryz.prog Tryz.f3 false true false false) := by
  refine returnsInHanded_of_change_and (C := Tryz.checked) (X := fun w _ => laidMetH Tryz.prog laid1 w) (fun _ _ _ hh h => h.of_heap hh) own started (by kernel_rfl) Tryz.func3
    (ChangeSpec.witness_shaped (enc := enc) (C := Tryz.checked) (os := os) (X := fun w _ => laidMetH Tryz.prog laid1 w) false (World.doorLaid Tryz.prog 400 os) #[.slice none 0 0] 8 rfl (World.shaped_of_RefB (by kernel_rfl) (by kernel_rfl)) (by kernel_rfl) (by kernel_rfl) (by kernel_rfl) (door_met os _)) ?_
  intro W base args ds gs before hval0 hW hcnd hsz0 hL _
  have hG := gl_of_laid hL
  have hval : ∀ (j : Nat) t v, Tryz.f3.params[j]? = some t → args[j]? = some v → Value.okWide Tryz.prog W .any base t v := hval0
  have hW' := hW
  obtain ⟨p, q, hA0, hV, rfl, hfz, hnd⟩ := hW
  have hA : DataW.TrodAll enc Tryz.prog W 0 (fun _ => true) true Tryz.f3.params.toList args.toList ds p := hA0
  rw [Tryz.params3] at hA hval
  obtain ⟨v0, vs0, d0, ds0, p0, q0, hargs, rfl, rfl, h0, r0⟩ := trodAll_cons hA
  obtain ⟨rfl, rfl, rfl⟩ := trodAll_nil r0
  obtain rfl : args = #[v0] := by cases args; simp_all
  obtain ⟨rfl, rfl⟩ := trodVars_none hV
  obtain ⟨a0, len0, cap0, rfl⟩ := okWide_slice Tryz.underlying22 (hval 0 22 v0 rfl rfl)
  have k0 := h0
  have lt0 : ∀ x ∈ p0, x.block < W.heap.size := by obtain ⟨m, hm⟩ := k0; exact DataW.trod_lt m _ _ _ hm
  obtain ⟨l0, s0⟩ : ∃ l, Intss W (.slice a0 len0 cap0) l := by
    obtain ⟨fuel, hf⟩ := h0
    exact intss_of_trod (by simpa [Value.cells] using hf)
  clear hA0 hval0
  refine (walk (.slice a0 len0 cap0) l0 W hG s0).mono fun e W' ⟨he, bel⟩ => ?_
  subst he
  exact ⟨_, rfl, _, _, _, [], _, [], hW', trodAll_mk1 (shut_bool Tryz.underlying4 _), (trodAll_cons_mk (Below.trod laidOut (by kernel_rfl) (of_decide_eq_true (by kernel_rfl)) k0 bel lt0) trodAll_mk0), rfl, bel.frame _, fun h => by cases h⟩
theorem over : Rows.ledgerDedupsRow.holds Tryz.pinned (OpenSpec.ofChange Rows.ledgerDedupsSpec) :=
  OpenClaim.holds_of_wide 3 Tryz.f3 rfl rfl rfl rfl rfl rfl rfl ⟨rfl, rfl, rfl, rfl, rfl⟩ rfl rfl rfl rfl rfl (by kernel_rfl) Tryz.func3 (by kernel_rfl)
    (of_decide_eq_true (by kernel_rfl)) (by unfold Func.isWrapper; first | (rw [if_pos (by decide +kernel)]; kernel_rfl) | (rw [if_neg (by decide +kernel)]; exact ⟨rfl, rfl⟩))
    (fun os started H enc _ => lifted os started H enc)
end Go.Proofs.YtillhpgdlmeajabGreatDoor.ledgerDedups
namespace Go.Proofs.YtillhpgdlmeajabGreatDoor
/-- The given statement: the tied card. -/
theorem LedgerDedups_holds : Rows.LedgerDedupsCardSaid :=
  Claim7.holds_tied_plain_at .later [] [.data] true Rows.ledgerDedupsCard.stood.harness false
    ledgerDedups.over (fun _ h => by cases h) (by kernel_rfl) (fun _ h => by cases h) ledgerDedups_row_tie rfl ⟨rfl, rfl⟩ (by kernel_rfl) rfl
    (fun f fn hf hfn => by
      obtain rfl : f = 3 := Option.some.inj ((show Tryz.prog.funcNamed "broadsheet/broadsheetlaw15.LedgerDedups" = some 3 by kernel_rfl).symm.trans hf) |>.symm
      obtain rfl : fn = Tryz.f3 := (Option.some.inj (Tryz.func3.symm.trans hfn)).symm
      exact ⟨by kernel_rfl, fun j t ht => by
        rw [Tryz.params3] at ht
        have hm : t ∈ ([22] : List TypeId) := by simpa using Array.mem_of_getElem? ht
        have hall : (([22] : List TypeId).all fun u => !Tryz.prog.wantsStandIn u) = true := by kernel_rfl
        exact (show Tryz.prog.wantsStandIn t = false by simpa using List.all_eq_true.1 hall t hm)⟩)
    (by kernel_rfl)
#print axioms LedgerDedups_holds
end Go.Proofs.YtillhpgdlmeajabGreatDoor
