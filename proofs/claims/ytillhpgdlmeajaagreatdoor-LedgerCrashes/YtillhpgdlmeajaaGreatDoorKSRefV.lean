/-
  The contracts of the reference's Verify and Encode.
-/
import Derived.Test.YtillhpgdlmeajaaGreatDoorKSOwner
import Derived.Test.YtillhpgdlmeajaaGreatDoorKORefs
namespace Go.Proofs.YtillhpgdlmeajaaGreatDoor
open Go.RowKit
open Go.Proofs

theorem and_one64 (n : Nat) (h : n < 16) : bits .and .i64 (n : Int) 1 = ((n % 2 : Nat) : Int) := by
  have h2 : ∀ m ∈ List.range 16, bits .and .i64 (m : Int) 1 = ((m % 2 : Nat) : Int) := by decide +kernel
  exact h2 n (by simpa using h)

set_option maxRecDepth 100000 in
set_option maxHeartbeats 2000000 in
theorem refverify_any (vpub : Value) (pub : List Int) (vm : Value) (ms : List Int) (v : Value) (i : Int) (ps qs : List (List Int)) (b : Bool) (hb : b = verP pub ms i ps qs) (w : World) (hP : Sl w vpub pub) (hPB : Bs pub) (hM : Sl w vm ms) (hMB : Bs ms) (hml : ms.length ≤ 1000) (hV : SigV w v i ps qs) (hi : -9223372036854775808 ≤ i ∧ i ≤ 9223372036854775807) :
    Calls Tryz.prog 82 #[vpub, vm, v] w fun e w' => e = .returned (.bool b) ∧ Kp [] w w' := by
  obtain ⟨c, hc⟩ : ∃ c, c = rgtP i ps qs := ⟨_, rfl⟩
  obtain ⟨ap, np, cp, aq, nq, cq, lp, lq, rfl, hLP, hp, hLQ, hq, hnp, hnq⟩ := hV.shape
  clear hnp
  obtain ⟨ob, hob⟩ : ∃ o : Obj, o = (.cells #[.int .i64 i, .slice ap np cp, .slice aq nq cq] 70) := ⟨_, rfl⟩
  have K1 : Kp [] w (w.alloc ob) := (Kp.refl [] w).alloc ob
  have HR := hide (refright_any _ i ps qs c hc (w.alloc ob) (hV.kept K1) hi)
  have HLP := hide hLP
  have HLQ := hide hLQ
  have Hp := hide hp
  have Hq := hide hq
  have HPu := hide hP
  have HPB := hide hPB
  have HM := hide hM
  have HMB := hide hMB
  have HNQ := hide hnq
  obtain ⟨au, cu, hvu, _⟩ := hP
  obtain ⟨nu, hnu⟩ : ∃ n, n = pub.length := ⟨_, rfl⟩
  rw [← hnu] at hvu
  subst hvu
  obtain ⟨am, cm, hvm, _⟩ := hM
  obtain ⟨nm, hnm⟩ : ∃ n, n = ms.length := ⟨_, rfl⟩
  rw [← hnm] at hvm
  subst hvm
  have hl1 := load_sig (w.alloc ob) w.heap.size (.int .i64 i) (.slice ap np cp) (.slice aq nq cq) (0, 0) (by rw [hob]; exact heap_alloc_new w _)
  have G1 : Hid ((w.alloc ob).heap[w.heap.size]? = some (.cells #[.int .i64 i, .slice ap np cp, .slice aq nq cq] 70 (0, 0))) := by rw [hob]; exact heap_alloc_new w _
  rw [hob] at K1 HR hl1 G1
  have HK1 := hide K1
  have HB := hide hb
  have HCC := hide hc
  clear hob K1 hLP hLQ hp hq hPB hMB hV hnu hnm hb hc hi hnq
  cases c
  · have hbf : b = false := by rw [unhide HB, verP, ← unhide HCC]; rfl
    subst hbf
    go_enter Tryz.func82, Tryz.ntmps82
    go_wp2_with fail
    refine (unhide HR).mono ?_
    rintro ee w2 ⟨rfl, K2⟩
    have HK2 := hide ((unhide HK1).trans K2)
    clear HR K2 HK1
    go_wp2_with fail
    go_ret
    exact ⟨rfl, unhide HK2⟩
  · have hrg := (rgtP_iff i ps qs).1 (unhide HCC).symm
    obtain ⟨⟨hi0, hi1⟩, ⟨hpl, hp32⟩, hql, hq32⟩ := hrg
    obtain ⟨k, rfl⟩ := Int.eq_ofNat_of_zero_le hi0
    have hk16 : k < 16 := by omega
    obtain ⟨d, hd⟩ : ∃ d, d = digP ms := ⟨_, rfl⟩
    obtain ⟨r, hr⟩ : ∃ r, r = rootP d ps := ⟨_, rfl⟩
    obtain ⟨t, ht⟩ : ∃ t, t = ledP r k qs := ⟨_, rfl⟩
    have hare : true = areP ps := by
      unfold areP
      symm
      simp only [Bool.and_eq_true, beq_iff_eq, List.all_eq_true]
      exact ⟨hpl, hp32⟩
    obtain ⟨S, hS⟩ : ∃ S, S = strOfNums t := ⟨_, rfl⟩
    obtain ⟨T, hT⟩ : ∃ T, T = strOfNums pub := ⟨_, rfl⟩
    have hrB : Bs r := by rw [hr]; exact sha_bs _
    have hrl : r.length ≤ 1000 := by rw [hr, rootP, sha_len]; omega
    have hbb : b = (S.toList == T.toList) := by
      have htB : Bs t := by rw [ht]; exact (ledP_ok r k qs hrl hrB).2
      rw [unhide HB, verP, ← unhide HCC, hS, hT, str_beq t pub htB (unhide HPB), ht, hr, hd]
      rfl
    have HRo := hide (fun w' (k' : Kp [] w w') => refroot_any _ ms (.slice ap np cp) lp d true r hd (by rw [unhide Hp]; exact hare) (by rw [unhide Hp]; exact hr) w' ((unhide HM).kept k' (by simp)) (unhide HMB) hml ((unhide HLP).kept k'))
    have HOK := hide (fun n => ledP_ok r k (qs.take n) hrl hrB)
    have HTT := hide ht
    have HQL := hide hql
    have HQ32 := hide hq32
    have hnq4 : nq = 4 := by rw [unhide HNQ]; exact hql
    subst hnq4
    have HS := hide hS
    have HT := hide hT
    clear hrB hrl hS hT hd hr ht hare HB HCC hp32 hq32 hpl hql hi0 hi1
    subst hbb
    go_enter Tryz.func82, Tryz.ntmps82
    go_wp2_with fail
    refine (unhide HR).mono ?_
    rintro ee w2 ⟨rfl, K2⟩
    have HK2 := hide ((unhide HK1).trans K2)
    have G2 := K2.heap (unhide G1) (by simp)
    have c1' : w2.cell? ⟨w.heap.size, 1, none⟩ = some (.slice ap np cp) := by rw [cell_of_row w2 w.heap.size 1 _ _ _ G2]; rfl
    have HG2 := hide G2
    clear HR K2 HK1 G1 G2
    go_wp2_with fail
    refine (unhide HRo w2 (unhide HK2)).mono ?_
    rintro ee w3 ⟨vr, rfl, hRoot, K3⟩
    obtain ⟨a3, m3, c3, rfl, R3⟩ := hRoot
    have HK3 := hide ((unhide HK2).trans K3)
    have HR3 := hide R3.sl
    have HG3 := hide (K3.heap (unhide HG2) (by simp))
    clear R3 K3 HRo HG2 HK2 c1'
    go_wp2_with fail
    go_loopw [7, 9] (fun v j wr => ∃ (n m cc : Nat) (ao : Option Addr), n ≤ 4 ∧ v = .slice ao m cc ∧ j = .int .i64 n ∧ Sl wr v (ledP r k (qs.take n)) ∧ Kp [] w wr ∧ Kp [] w3 wr) (fun _ j _ => 4 - (intOf j).toNat)
    case atStart => exact ⟨0, m3, c3, a3, by omega, rfl, rfl, unhide HR3, unhide HK3, Kp.refl _ _⟩
    case round =>
      clear HR3 HK3
      obtain ⟨n, m, cc, ao, hn, rfl, rfl, Sr, Kr, Kr3⟩ := hrel
      have HSr := hide Sr
      have HKr := hide Kr
      have HKr3 := hide Kr3
      have Gr := Kr3.heap (unhide HG3) (by simp)
      have e0 : wr.cell? ⟨w.heap.size, 0, none⟩ = some (.int .i64 k) := by rw [cell_of_row wr w.heap.size 0 _ _ _ Gr]; rfl
      have e2 : wr.cell? ⟨w.heap.size, 2, none⟩ = some (.slice aq 4 cq) := by rw [cell_of_row wr w.heap.size 2 _ _ _ Gr]; rfl
      clear Sr Kr Kr3 Gr
      by_cases hlt : n < 4
      · have hlt2 : (n : Int) < 4 := by omega
        have hnl : n < qs.length := by have := unhide HQL; omega
        obtain ⟨bq, oq, ay, ny, cy, rfl, hcy, hSy, hBy⟩ := lists_at (unhide HLQ) (unhide Hq) n hnl
        have hcw := (unhide HKr).cell hcy (by simp)
        have hE := led_take r k qs n hnl
        obtain ⟨x, hx⟩ : ∃ x, x = k / 2 ^ n := ⟨_, rfl⟩
        have hx16 : x < 16 := by rw [hx]; exact Nat.lt_of_le_of_lt (Nat.div_le_self _ _) hk16
        have hshr : (k : Int) / 2 ^ n = (x : Int) := by rw [hx, Int.natCast_ediv, Int.natCast_pow]; rfl
        have hshr2 : (k : Int) / 2 ^ ((n : Int)).toNat = (x : Int) := by rw [Int.toNat_natCast]; exact hshr
        have hand := and_one64 x hx16
        have hyl : (qs.getD n []).length ≤ 1000 := by have := unhide HQ32 _ (getD_mem hnl); omega
        have hok := unhide HOK n
        obtain ⟨tb, htb⟩ : ∃ tb, tb = x % 2 := ⟨_, rfl⟩
        have ht2 : tb < 2 := by omega
        rw [← htb] at hand
        rw [← hx, ← htb] at hE
        obtain ⟨Y, hY⟩ : ∃ Y, Y = qs.getD n [] := ⟨_, rfl⟩
        obtain ⟨X, hX⟩ : ∃ X, X = ledP r k (qs.take n) := ⟨_, rfl⟩
        rw [← hY] at hE hSy hBy hyl
        rw [← hX] at hE hok HSr
        have HSy := hide (hSy.kept (unhide HKr) (by simp))
        have HE := hide hE
        have HOk := hide hok
        have HBy := hide hBy
        clear hE hok hBy hSy hcy hx htb hY hX
        rcases (by omega : tb = 0 ∨ tb = 1) with rfl | rfl
        · rw [if_pos rfl] at HE
          obtain ⟨q, hq⟩ : ∃ q, q = nodeP X Y := ⟨_, rfl⟩
          have HL2 := hide (lists2 (unhide HSr) (unhide HOk).2 (unhide HSy) (unhide HBy))
          have HKa := hide ((Kp.refl [] wr).alloc (.cells #[.slice ao m cc, .slice ay ny cy] 22))
          have HC := hide (reftagged_any 14 _ _ q (by rw [hq, cat2]; rfl) _ (unhide HL2) (by omega) (by omega) (by simp) (by have := (unhide HOk).1; simp; omega))
          rw [← hq] at HE
          clear hq HL2
          go_wp2_with fail
          refine (unhide HC).mono ?_
          rintro ee w5 ⟨a5, m5, c5, rfl, R5, K5⟩
          have HS5 := hide R5.sl
          have HK5 := hide ((unhide HKr).trans ((unhide HKa).trans K5))
          have HK53 := hide ((unhide HKr3).trans ((unhide HKa).trans K5))
          clear R5 K5 HC HKa HSr HSy HKr HKr3 e0 e2 hcw
          go_wp2_with fail
          go_roundw
          case rel => exact ⟨n + 1, m5, c5, a5, by omega, rfl, by go_num, by rw [unhide HE]; exact unhide HS5, unhide HK5, unhide HK53⟩
          case measure => simp [intOf]; omega
        · rw [if_neg (by omega)] at HE
          obtain ⟨q, hq⟩ : ∃ q, q = nodeP Y X := ⟨_, rfl⟩
          have HL2 := hide (lists2 (unhide HSy) (unhide HBy) (unhide HSr) (unhide HOk).2)
          have HKa := hide ((Kp.refl [] wr).alloc (.cells #[.slice ay ny cy, .slice ao m cc] 22))
          have HC := hide (reftagged_any 14 _ _ q (by rw [hq, cat2]; rfl) _ (unhide HL2) (by omega) (by omega) (by simp) (by have := (unhide HOk).1; simp; omega))
          rw [← hq] at HE
          clear hq HL2
          go_wp2_with fail
          refine (unhide HC).mono ?_
          rintro ee w5 ⟨a5, m5, c5, rfl, R5, K5⟩
          have HS5 := hide R5.sl
          have HK5 := hide ((unhide HKr).trans ((unhide HKa).trans K5))
          have HK53 := hide ((unhide HKr3).trans ((unhide HKa).trans K5))
          clear R5 K5 HC HKa HSr HSy HKr HKr3 e0 e2 hcw
          go_wp2_with fail
          go_roundw
          case rel => exact ⟨n + 1, m5, c5, a5, by omega, rfl, by go_num, by rw [unhide HE]; exact unhide HS5, unhide HK5, unhide HK53⟩
          case measure => simp [intOf]; omega
      · obtain rfl : n = 4 := by omega
        have hT4 : qs.take 4 = qs := List.take_of_length_le (by have := unhide HQL; omega)
        rw [hT4, ← unhide HTT] at HSr
        have v1 := (unhide HSr).conv (P := Tryz.prog) 22 9 5 Tryz.underlying22 Tryz.underlying5 Tryz.underlying9
        have v2 := ((unhide HPu).kept (unhide HKr) (by simp)).conv (P := Tryz.prog) 22 9 5 Tryz.underlying22 Tryz.underlying5 Tryz.underlying9
        rw [← unhide HS] at v1
        rw [← unhide HT] at v2
        clear hT4 HSr e0 e2
        go_wp2_with fail
        go_ret
        exact ⟨rfl, unhide HKr⟩

theorem flat32 : ∀ (m : List (List Int)), (∀ x ∈ m, x.length = 32) → m.flatten.length = 32 * m.length := by
  intro m
  induction m with
  | nil => simp
  | cons a m ih =>
    intro hm
    rw [List.flatten_cons, List.length_append, ih (fun x hx => hm x (by simp [hx])), hm a (by simp), List.length_cons]
    omega

end Go.Proofs.YtillhpgdlmeajaaGreatDoor

/-
  The contract of the reference's Same, of signatures that are alike.
-/
namespace Go.Proofs.YtillhpgdlmeajaaGreatDoor
open Go.RowKit
open Go.Proofs

set_option maxRecDepth 100000 in
set_option maxHeartbeats 2000000 in
theorem refsame_any (v u : Value) (i : Int) (ps qs : List (List Int)) (w : World) (hV : SigV w v i ps qs) (hU : SigV w u i ps qs) :
    Calls Tryz.prog 55 #[v, u] w fun e w' => e = .returned (.bool true) ∧ Kp [] w w' := by
  obtain ⟨ap, np, cp, aq, nq, cq, lp, lq, rfl, hP, hp, hQ, hq, hnp, hnq⟩ := hV.shape
  obtain ⟨ar, nr, cr, as', ns, cs, lr, ls, rfl, hR, hr, hS, hs, hnr, hns⟩ := hU.shape
  obtain rfl : nr = np := by omega
  obtain rfl : ns = nq := by omega
  have hb1 : nr ≤ 9223372036854775807 := by obtain ⟨_, _, e, h, _⟩ := hP; injection e with _ e2; omega
  have hb2 : ns ≤ 9223372036854775807 := by obtain ⟨_, _, e, h, _⟩ := hQ; injection e with _ e2; omega
  obtain ⟨o1, ho1⟩ : ∃ o : Obj, o = (.cells #[.int .i64 i, .slice ap nr cp, .slice aq ns cq] 70) := ⟨_, rfl⟩
  obtain ⟨o2, ho2⟩ : ∃ o : Obj, o = (.cells #[.int .i64 i, .slice ar nr cr, .slice as' ns cs] 70) := ⟨_, rfl⟩
  obtain ⟨W, hW⟩ : ∃ W, W = (w.alloc o1).alloc o2 := ⟨_, rfl⟩
  have K1 : Kp [] w W := by rw [hW]; exact ((Kp.refl [] w).alloc o1).alloc o2
  have G1 : W.heap[w.heap.size]? = some o1 := by rw [hW]; exact heap_alloc2_old w o1 o2
  have G2 : W.heap[w.heap.size + 1]? = some o2 := by rw [hW]; exact heap_alloc2_new w o1 o2
  rw [ho1] at G1
  rw [ho2] at G2
  have hWE : W = (w.alloc (.cells #[.int .i64 i, .slice ap nr cp, .slice aq ns cq] 70)).alloc (.cells #[.int .i64 i, .slice ar nr cr, .slice as' ns cs] 70) := by rw [hW, ho1, ho2]
  have HWE := hide hWE
  have HG1 := hide G1
  have HG2 := hide G2
  have HK1 := hide K1
  have HP := hide (hP.kept K1)
  have HQ := hide (hQ.kept K1)
  have HR := hide (hR.kept K1)
  have HS := hide (hS.kept K1)
  have Hxp := hide hp
  have Hxq := hide hq
  have Hxr := hide hr
  have Hxs := hide hs
  have HN1 := hide hnr
  have HN2 := hide hns
  have hb1i : (nr : Int) ≤ 9223372036854775807 := by omega
  have hb2i : (ns : Int) ≤ 9223372036854775807 := by omega
  clear hP hQ hR hS hp hq hr hs hnp hnq hnr hns hV hU ho1 ho2 hW hWE K1 G1 G2
  go_enter Tryz.func55, Tryz.ntmps55
  go_wp2_with fail
  rw [← unhide HWE]
  go_loopw [5] (fun j wr => ∃ k : Nat, k ≤ nr ∧ j = .int .i64 k ∧ Kp [] W wr) (fun j _ => nr - (intOf j).toNat)
  case atStart => exact ⟨0, by omega, rfl, Kp.refl _ _⟩
  case round =>
    obtain ⟨k, hk, rfl, Kr⟩ := hrel
    have HKr := hide Kr
    have hr1 : wr.cell? ⟨w.heap.size, 1, none⟩ = some (.slice ap nr cp) := by rw [cell_of_row wr w.heap.size 1 _ _ _ (Kr.heap (unhide HG1) (by simp))]; rfl
    have hr2 : wr.cell? ⟨w.heap.size + 1, 1, none⟩ = some (.slice ar nr cr) := by rw [cell_of_row wr (w.heap.size + 1) 1 _ _ _ (Kr.heap (unhide HG2) (by simp))]; rfl
    clear Kr
    by_cases hlt : k < nr
    · have hlt2 : (k : Int) < (nr : Int) := by omega
      obtain ⟨b1, o1, ax, nx, cx, rfl, hcx, hSx, hBx⟩ := lists_at (unhide HP) (unhide Hxp) k (by have := unhide HN1; omega)
      obtain ⟨b2, o2, ay, ny, cy, rfl, hcy, hSy, hBy⟩ := lists_at (unhide HR) (unhide Hxr) k (by have := unhide HN1; omega)
      have d0 : wr.drew.cell? ⟨w.heap.size, 1, none⟩ = some (.slice (some ⟨b1, o1, none⟩) nr cp) := (kp_drew wr).cell hr1 (by simp)
      have d0' : wr.drew.cell? ⟨w.heap.size + 1, 1, none⟩ = some (.slice (some ⟨b2, o2, none⟩) nr cr) := (kp_drew wr).cell hr2 (by simp)
      have kk := (unhide HKr).trans (kp_drew wr)
      have d1 : wr.drew.cell? ⟨b1, o1 + k, none⟩ = some (.slice ax nx cx) := kk.cell hcx (by simp)
      have d2 : wr.drew.cell? ⟨b2, o2 + k, none⟩ = some (.slice ay ny cy) := kk.cell hcy (by simp)
      have v1 := (hSx.kept kk (by simp)).conv (P := Tryz.prog) 22 9 5 Tryz.underlying22 Tryz.underlying5 Tryz.underlying9
      have v2 := (hSy.kept kk (by simp)).conv (P := Tryz.prog) 22 9 5 Tryz.underlying22 Tryz.underlying5 Tryz.underlying9
      obtain ⟨S, hSS⟩ : ∃ S, S = strOfNums (ps.getD k []) := ⟨_, rfl⟩
      rw [← hSS] at v1 v2
      have HKK := hide kk
      clear hcx hcy hSx hSy hBx hBy hSS kk
      go_wp2_with fail
      refine region_read Tryz.mixed (by kernel_rfl) ?_
      repeat (first | go_big_quiet_skip | (go_big_quiet_want; go_big_quiet_op; go_big_quiet_on))
      refine wpQuiet_nil ?_
      go_wp2_with fail
      go_roundw
      case rel => exact ⟨k + 1, by omega, by go_num, unhide HKK⟩
      case measure => simp [intOf]; omega
    · obtain rfl : k = nr := by omega
      have hlt2 : ¬ (k : Int) < (k : Int) := by omega
      have HKe := hide (unhide HKr)
      go_wp2_with fail
      go_loopw [6] (fun j wr => ∃ k : Nat, k ≤ ns ∧ j = .int .i64 k ∧ Kp [] W wr) (fun j _ => ns - (intOf j).toNat)
      case atStart => exact ⟨0, by omega, rfl, unhide HKe⟩
      case round =>
        obtain ⟨k, hk, rfl, Kr⟩ := hrel
        have HKr := hide Kr
        have hr1 : wr.cell? ⟨w.heap.size, 2, none⟩ = some (.slice aq ns cq) := by rw [cell_of_row wr w.heap.size 2 _ _ _ (Kr.heap (unhide HG1) (by simp))]; rfl
        have hr2 : wr.cell? ⟨w.heap.size + 1, 2, none⟩ = some (.slice as' ns cs) := by rw [cell_of_row wr (w.heap.size + 1) 2 _ _ _ (Kr.heap (unhide HG2) (by simp))]; rfl
        clear Kr
        by_cases hlt : k < ns
        · have hlt2 : (k : Int) < (ns : Int) := by omega
          obtain ⟨b1, o1, ax, nx, cx, rfl, hcx, hSx, hBx⟩ := lists_at (unhide HQ) (unhide Hxq) k (by have := unhide HN2; omega)
          obtain ⟨b2, o2, ay, ny, cy, rfl, hcy, hSy, hBy⟩ := lists_at (unhide HS) (unhide Hxs) k (by have := unhide HN2; omega)
          have d0 : wr.drew.cell? ⟨w.heap.size, 2, none⟩ = some (.slice (some ⟨b1, o1, none⟩) ns cq) := (kp_drew wr).cell hr1 (by simp)
          have d0' : wr.drew.cell? ⟨w.heap.size + 1, 2, none⟩ = some (.slice (some ⟨b2, o2, none⟩) ns cs) := (kp_drew wr).cell hr2 (by simp)
          have kk := (unhide HKr).trans (kp_drew wr)
          have d1 : wr.drew.cell? ⟨b1, o1 + k, none⟩ = some (.slice ax nx cx) := kk.cell hcx (by simp)
          have d2 : wr.drew.cell? ⟨b2, o2 + k, none⟩ = some (.slice ay ny cy) := kk.cell hcy (by simp)
          have v1 := (hSx.kept kk (by simp)).conv (P := Tryz.prog) 22 9 5 Tryz.underlying22 Tryz.underlying5 Tryz.underlying9
          have v2 := (hSy.kept kk (by simp)).conv (P := Tryz.prog) 22 9 5 Tryz.underlying22 Tryz.underlying5 Tryz.underlying9
          obtain ⟨S, hSS⟩ : ∃ S, S = strOfNums (qs.getD k []) := ⟨_, rfl⟩
          rw [← hSS] at v1 v2
          have HKK := hide kk
          clear hcx hcy hSx hSy hBx hBy hSS kk
          go_wp2_with fail
          refine region_read Tryz.mixed (by kernel_rfl) ?_
          repeat (first | go_big_quiet_skip | (go_big_quiet_want; go_big_quiet_op; go_big_quiet_on))
          refine wpQuiet_nil ?_
          go_wp2_with fail
          go_roundw
          case rel => exact ⟨k + 1, by omega, by go_num, unhide HKK⟩
          case measure => simp [intOf]; omega
        · obtain rfl : k = ns := by omega
          have hlt2 : ¬ (k : Int) < (k : Int) := by omega
          go_wp2_with fail
          go_ret
          exact ⟨rfl, (unhide HK1).trans (unhide HKr)⟩
end Go.Proofs.YtillhpgdlmeajaaGreatDoor
