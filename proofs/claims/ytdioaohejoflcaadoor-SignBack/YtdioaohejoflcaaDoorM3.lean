/-
  The contracts of the reference's constants and Sum.
-/
import Derived.Test.YtdioaohejoflcaaDoorM2
import Derived.Test.YtdioaohejoflcaaDoorM1
import Derived.Deep.RegionHeld3
import Derived.Deep.RegionLaw
import Derived.Maps.AppendAt
namespace Go.Proofs.YtdioaohejoflcaaDoor
open Go.RowKit

set_option maxRecDepth 100000 in
set_option maxHeartbeats 4000000 in
theorem consts_any (w : World) : Calls Tryd.prog 76 #[] w fun e w' => e = .returned (ag consts) ∧ Kp [] w w' := by
  obtain ⟨i0, hi0, hz0⟩ := Tryd.zero64
  go_enter Tryd.func76, Tryd.ntmps76
  go_wp2_with (first
    | (refine wpList_alloc_ar (w := w) rfl 103 rfl i0 _ hi0 hz0 ?_; intro w1 A1 K1 z1)
    | (refine wpList_store_ar rfl 103 (.tmp 0) (.tmp 1) rfl w.heap.size rfl _ _ consts A1 rfl rfl Tryd.sz64 ?_; intro w2 A2 K2 z2))
  refine bodyPost_ret (results_cell_row rfl _ w2 w.heap.size _ _ (0, 0) (.array 64 70) rfl A2 Tryd.underlying103 rfl Tryd.sz64) rfl ?_
  exact ⟨rfl, K1.then K2 (by simp)⟩

/-- What is left of a text behind k blocks. -/
theorem blks_succ (k : Nat) (s bs : List Int) : blks (k + 1) s bs = blk (blks k s bs) ((bs.drop (64 * k)).take 64) := rfl

set_option maxRecDepth 100000 in
set_option maxHeartbeats 2000000 in
theorem refsum_any (vb : Value) (bs : List Int) (w : World) (hS : Sl w vb bs) (hB : Bs bs) (hl : bs.length ≤ 1000000000000) :
    Calls Tryd.prog 55 #[vb] w fun e w' => ∃ ao m c, e = .returned (.slice ao m c) ∧ Row w' w.heap.size (.slice ao m c) (sha bs) ∧ Kp [] w w' := by
  obtain ⟨i0, hi0, hz0⟩ := Tryd.zero64
  obtain ⟨i8, hi8, hz8⟩ := Tryd.zero8
  have HB : Hid (Bs bs) := hB
  have HSl : Hid (Sl w vb bs) := hS
  obtain ⟨ab, cb, rfl, h1, h2, h3, _⟩ := hS
  obtain ⟨N, hN⟩ : ∃ N, N = bs.length := ⟨_, rfl⟩
  rw [← hN] at h1 HSl ⊢
  have HN := hide hN
  have hNl : N ≤ 1000000000000 := by omega
  clear hB hN hl
  go_enter Tryd.func55, Tryd.ntmps55
  go_wp2_with (first
    | (refine wpList_alloc_ar (w := w) rfl 102 rfl i8 _ hi8 hz8 ?_; intro w1 A1 K1 z1)
    | (refine wpList_store_ar rfl 102 (.tmp 3) (.tmp 10) rfl w.heap.size rfl _ _ begin8 A1 rfl rfl Tryd.sz8 ?_; intro w2 A2 K2 z2)
    | (go_at_call 76; refine (consts_any _).mono ?_; rintro ee w3 ⟨rfl, K3⟩)
    | (refine wpList_alloc_ar (w := w3) rfl 103 rfl i0 _ hi0 hz0 ?_; intro w4 A4 K4 z4)
    | (refine wpList_store_ar rfl 103 (.tmp 4) (.tmp 11) rfl w3.heap.size rfl _ _ consts A4 rfl rfl Tryd.sz64 ?_; intro w5 A5 K5 z5))
  obtain ⟨b1, hb1⟩ : ∃ b, b = w.heap.size := ⟨_, rfl⟩
  obtain ⟨b2, hb2⟩ : ∃ b, b = w3.heap.size := ⟨_, rfl⟩
  rw [← hb2] at A4 A5 K5
  rw [← hb1] at A1 A2 K2
  simp only [← hb1, ← hb2]
  have hs3 := K3.size
  have hs1 := K1.size
  have hA2l := A2.lt
  have hne : b1 ≠ b2 := by omega
  have K25 : Kp [] w2 w4 := K3.trans K4
  have hAH : Hid (Ar w5 b1 102 begin8) := (A2.kept K25 (by simp)).kept K5 (by simpa using hne)
  have hAK : Hid (Ar w5 b2 103 consts) := A5
  have hKW : Hid (Kp [] w w5) := ((K1.then K2 (by simp; omega)).trans K25).then K5 (by simp; omega)
  have hbw2 : w.heap.size ≤ b2 := by omega
  have HB1 := hide hb1
  clear A1 A2 A4 A5 K1 K2 K3 K4 K5 K25 z1 z2 z4 z5 hs3 hs1 hA2l hb1 hb2
  go_loopw [0] (fun v wr => ∃ (k m c : Nat) (ao : Option Addr), 64 * k ≤ N ∧ v = .slice ao m c ∧ Sl w v (bs.drop (64 * k)) ∧ Kp [b1] w5 wr ∧ Ar wr b1 102 (blks k begin8 bs)) (fun v _ => (match v with | .slice _ m _ => m | _ => 0))
  case atStart => exact ⟨0, N, cb, ab, by omega, rfl, by simpa using unhide HSl, Kp.refl _ _, unhide hAH⟩
  case round =>
    obtain ⟨k, m, c, ao, hk, rfl, Sk, Kr, Ak⟩ := hrel
    have hlk := blks_len begin8 bs rfl k
    have hml : m = N - 64 * k := by obtain ⟨_, _, e, _⟩ := Sk; injection e with _ e2 _; rw [e2]; simp; have := unhide HN; omega
    have hmc : m ≤ c ∧ c ≤ maxLen ∧ (ao = none → c = 0) := by obtain ⟨_, _, e, x1, x2, x3, _⟩ := Sk; injection e with e1 e2 e3; subst e1; subst e3; exact ⟨by omega, x2, x3⟩
    obtain ⟨hmc, hcx, hao⟩ := hmc
    unfold maxLen at hcx
    have hKw : Hid (Kp [b1] w wr) := ((unhide hKW).mono (by simp)).trans Kr
    have hbl1 : w.heap.size ≤ b1 := by have := unhide HB1; omega
    by_cases hge : 64 ≤ m
    · cases ao with
      | none => have := hao rfl; omega
      | some a =>
      have hgi : (64 : Int) ≤ (m : Int) := by omega
      have hgc : (64 : Int) ≤ (c : Int) := by omega
      have hdl : (bs.drop (64 * k)).length = m := by have := unhide HN; simp; omega
      have ST := Sk.take 64 (by omega)
      have hST : Hid (Sl wr.drew (.slice (some a) 64 c) ((bs.drop (64 * k)).take 64)) := (ST.old (unhide hKw) (by intro i _ hi; simp; omega)).kept (kp_drew wr) (by simp)
      have hSD := hide (Sk.drop 64 (by omega))
      have hdd : (bs.drop (64 * k)).drop 64 = bs.drop (64 * (k + 1)) := by rw [List.drop_drop]; congr 1
      rw [hdd] at hSD
      have hb64 : ((bs.drop (64 * k)).take 64).length = 64 := by simp; have := unhide HN; omega
      have hKr := hide Kr
      obtain ⟨sk, hsk⟩ : ∃ sk, sk = blks k begin8 bs := ⟨_, rfl⟩
      have HSK := hide hsk
      have AD : Ar wr.drew b1 102 (blks k begin8 bs) := Ak
      rw [← hsk] at AD hlk
      have hAD := hide AD
      have hAKr : Hid (Ar wr.drew b2 103 consts) := (unhide hAK).kept Kr.drew (by simpa using Ne.symm hne)
      have hi : (Tryd.prog.info? 102).map (·.size) = some sk.length := by rw [hlk]; exact Tryd.sz8
      have HML := hide hml
      clear Sk ST Kr Ak AD hsk hdd hdl hml
      go_wp2_with fail
      refine region_tail 3 Tryd.mixed (by kernel_rfl) ?_
      simp only [List.take_succ_cons, List.take_zero, List.drop_succ_cons, List.drop_zero]
      go_big_quiet_want
      refine quiet_load_ar 102 (.tmp 3) rfl b1 rfl _ sk 8 70 (unhide hAD) Tryd.underlying102 hi ?_
      simp only [Act.put, List.set_cons_zero, List.set_cons_succ, List.setIfInBounds_toArray]
      go_big_quiet_on
      repeat (first | go_big_quiet_skip | (go_big_quiet_want; go_big_quiet_op; go_big_quiet_on))
      refine wpQuiet_nil ?_
      have hbl := blk_len sk ((bs.drop (64 * k)).take 64) hlk
      have hi6 : (Tryd.prog.info? 102).map (·.size) = some (blk sk ((bs.drop (64 * k)).take 64)).length := by rw [hbl]; exact Tryd.sz8
      by_cases hc : c = 64
      · obtain rfl : c = 64 := hc
        obtain rfl : m = 64 := by omega
        go_wp2_with (first
          | (go_at_call 77; refine (block_any sk b2 _ _ _ hlk (unhide hAKr) (unhide hST) hb64 (((unhide HB).drop _).take _)).mono ?_; rintro ee w6 ⟨rfl, K6⟩; have A6 := (unhide hAD).kept K6 (by simp))
          | (refine wpList_store_ar rfl 102 (.tmp 3) (.tmp 20) rfl b1 rfl _ _ _ A6 rfl (by rw [hbl]; exact hlk) hi6 ?_; intro w7 A7 K7 z7))
        go_roundw
        case rel =>
          refine ⟨k + 1, 0, 0, some a, by have := unhide HML; omega, rfl, ?_, (((unhide hKr).drew).trans (K6.mono (by simp))).trans K7, ?_⟩
          · have := unhide hSD; rwa [if_pos trivial] at this
          · rw [blks_succ, ← unhide HSK]; exact A7
        case measure => show 0 < 64; omega
      · go_wp2_with (first
          | (go_at_call 77; refine (block_any sk b2 _ _ _ hlk (unhide hAKr) (unhide hST) hb64 (((unhide HB).drop _).take _)).mono ?_; rintro ee w6 ⟨rfl, K6⟩; have A6 := (unhide hAD).kept K6 (by simp))
          | (refine wpList_store_ar rfl 102 (.tmp 3) (.tmp 20) rfl b1 rfl _ _ _ A6 rfl (by rw [hbl]; exact hlk) hi6 ?_; intro w7 A7 K7 z7))
        go_roundw
        case rel =>
          refine ⟨k + 1, m - 64, c - 64, some (a.add 64), by have := unhide HML; omega, rfl, ?_, (((unhide hKr).drew).trans (K6.mono (by simp))).trans K7, ?_⟩
          · have := unhide hSD; rwa [if_neg hc] at this
          · rw [blks_succ, ← unhide HSK]; exact A7
        case measure => show m - 64 < m; omega
    · have hk64 : k = N / 64 := by omega
      obtain ⟨w6, hw6⟩ : ∃ w6, w6 = wr := ⟨_, rfl⟩
      subst hw6
      obtain ⟨rs, hrs⟩ : ∃ rs, rs = bs.drop (64 * k) := ⟨_, rfl⟩
      have hrl : rs.length = m := by rw [hrs]; simp; have := unhide HN; omega
      have hrl64 : rs.length < 64 := by omega
      have hS6 : Sl w6 (.slice ao m c) rs := by rw [hrs]; exact Sk.old (unhide hKw) (by intro i _ hi; simp; omega)
      obtain ⟨s1, hs1⟩ : ∃ s1, s1 = blks k begin8 bs := ⟨_, rfl⟩
      rw [← hs1] at Ak hlk
      have HRS := hide hrs
      have HS1 := hide hs1
      have HK64 := hide hk64
      have hA6 := hide Ak
      have hA26 : Hid (Ar w6 b2 103 consts) := (unhide hAK).kept Kr (by simpa using Ne.symm hne)
      have hl1 := Ak.lt
      have hl2 := (unhide hA26).lt
      have HS6 := hide hS6
      have HBr : Hid (Bs rs) := by rw [hrs]; exact (unhide HB).drop _
      have hmi : (m : Int) < 64 := by omega
      have HRL := hide hrl
      clear Sk Kr Ak hS6 hrs hs1 hk64 hrl hml hAH hAK hge
      have R0 : Row (w6.alloc (.cells #[] 5)) w6.heap.size (.slice (some ⟨w6.heap.size, 0, none⟩) 0 0) [] := World.ownsRow_made w6 #[] 0 (Nat.le_refl _) (by simp [maxLen]) rfl
      have hR0 := hide R0
      have HS60 := hide ((unhide HS6).kept ((Kp.refl [] w6).alloc (.cells #[] 5)) (by simp))
      have K60 : Kp [] w6 (w6.alloc (.cells #[] 5)) := (Kp.refl [] w6).alloc _
      clear R0
      go_wp2_with (first
        | (at_builtin; refine wpList_append_row rfl (.tmp 23) (.tmp 24) rfl w6.heap.size _ [] rfl (unhide hR0) _ rs rfl (unhide HS60) (by simp; omega) K60.size ?_; intro ao7 m7 c7 w7 r7 s7; have K7 := (unhide hR0).step K60 s7; rw [List.nil_append] at r7)
        | (at_builtin; refine wpList_append_row rfl (.tmp 25) (.tmp 26) rfl w6.heap.size _ rs rfl (r7.kept ((Kp.refl [] w7).alloc _) (by simp)) _ [128] rfl (one_block w7 128) (by simp; omega) (by have := K7.size; simp; omega) ?_; intro ao8 m8 c8 w8 r8 s8; have K8 := r7.step K7 (s8.after ((Kp.refl [] w7).alloc _))))
      have hm8 := r8.len
      have hR3 : Row w8 w6.heap.size (.slice ao8 m8 c8) (rs ++ [128] ++ List.replicate 0 0) := by simpa using r8
      have hR := hide hR3
      have hK8 := hide K8
      clear r7 r8 hR3 K7 K8 s7 s8 hm8 K60 hR0 HS60
      go_loopw [6] (fun v wr => ∃ (z m c : Nat) (ao : Option Addr), z ≤ zeros rs.length ∧ v = .slice ao m c ∧ Row wr w6.heap.size v (rs ++ [128] ++ List.replicate z 0) ∧ Kp [] w6 wr) (fun v _ => 200 - (match v with | .slice _ m _ => m | _ => 0))
      case atStart => exact ⟨0, m8, c8, ao8, by omega, rfl, unhide hR, unhide hK8⟩
      case round =>
        obtain ⟨z, m, c, ao, hz, rfl, Rr, Kr⟩ := hrel
        have hml := Rr.len
        simp only [List.length_append, List.length_replicate, List.length_cons, List.length_nil] at hml
        have hzb : zeros rs.length < 64 := by unfold zeros; omega
        by_cases hlt : z < zeros rs.length
        · have hne6 : ¬ ((m : Int) % 64 = 56) := by unfold zeros at hlt; omega
          have hmm : m ≤ 150 := by omega
          have HML := hide hml
          have hrb : (rs ++ [128] ++ List.replicate z (0 : Int)).length ≤ 150 := by simp; omega
          clear hml
          go_wp2_with (at_builtin; refine wpList_append_row rfl (.tmp 32) (.tmp 33) rfl w6.heap.size _ _ rfl (Rr.kept ((Kp.refl [] wr).alloc _) (by simp)) _ [0] rfl (one_block wr 0) (by simp only [List.length_cons, List.length_nil]; omega) (by have := Kr.size; simp; omega) ?_; intro ao2 m2 c2 w2 r2 s2)
          have hm2 := r2.len
          simp only [List.length_append, List.length_replicate, List.length_cons, List.length_nil] at hm2
          go_roundw
          case rel =>
            refine ⟨z + 1, m2, c2, ao2, by omega, rfl, ?_, Rr.step Kr (s2.after ((Kp.refl [] wr).alloc _))⟩
            rw [List.replicate_succ', ← List.append_assoc]
            exact r2
          case measure => show 200 - m2 < 200 - m; have := unhide HML; omega
        · have hzz : z = zeros rs.length := by omega
          have he : (m : Int) % 64 = 56 := by rw [hzz] at hml; unfold zeros at hml; omega
          obtain ⟨pre, hpre⟩ : ∃ pre, pre = rs ++ [128] ++ List.replicate z 0 := ⟨_, rfl⟩
          have hpl : pre.length ≤ 128 := by rw [hpre]; simp; omega
          have hR9 : Row wr w6.heap.size (.slice ao m c) (pre ++ (be8 (N * 8)).take 0) := by simpa [hpre] using Rr
          have HR9 := hide hR9
          have HK9 := hide Kr
          have HP : Hid (pre ++ (be8 (N * 8)).take 8 = pad rs N) := by
            show _ = _
            unfold pad
            rw [hpre, hzz, List.take_of_length_le (by simp [be8])]
          clear hpre Rr Kr hR9 hml hzz hlt hz hzb
          have hN8 : (N : Int) * 8 ≤ 8000000000000 := by omega
          go_wp2_with fail
          clear he
          go_loopw [6, 7] (fun v i wr => ∃ (j m c : Nat) (ao : Option Addr), j ≤ 8 ∧ v = .slice ao m c ∧ i = .int .i64 (7 - (j : Int)) ∧ Row wr w6.heap.size v (pre ++ (be8 (N * 8)).take j) ∧ Kp [] w6 wr) (fun _ i _ => (intOf i + 1).toNat)
          case atStart => exact ⟨0, m, c, ao, by omega, rfl, rfl, unhide HR9, unhide HK9⟩
          case round =>
            obtain ⟨j, m, c, ao, hj, rfl, rfl, Rr, Kr⟩ := hrel
            by_cases hlt : j < 8
            · have hj2 : (j : Int) < 8 := by omega
              have hj3 : (j : Int) ≤ 7 := by omega
              have HT := hide (be8_take (N * 8) j hlt)
              have hpj : (pre ++ (be8 (N * 8)).take j).length ≤ 136 := by simp [be8]; omega
              obtain ⟨q, hq⟩ : ∃ q, q = pre ++ (be8 (N * 8)).take j := ⟨_, rfl⟩
              rw [← hq] at hpj Rr
              have HQ := hide hq
              clear hq
              go_wp2_with (at_builtin; refine wpList_append_row rfl (.tmp 39) (.tmp 48) rfl w6.heap.size _ _ rfl (Rr.kept ((Kp.refl [] wr).alloc _) (by simp)) _ [(N : Int) * 8 / 2 ^ (8 * (7 - j)) % 256] rfl (one_block wr _) (by simp; omega) (by have := Kr.size; simp; omega) ?_; intro ao2 m2 c2 w2 r2 s2)
              go_roundw
              case rel =>
                refine ⟨j + 1, m2, c2, ao2, by omega, rfl, by go_num, ?_, Rr.step Kr (s2.after ((Kp.refl [] wr).alloc _))⟩
                rw [unhide HT, ← List.append_assoc, ← unhide HQ]
                exact r2
              case measure => simp [intOf]; omega
            · obtain rfl : j = 8 := by omega
              rw [unhide HP] at Rr
              have e78 : (7 : Int) - ((8 : Nat) : Int) = -1 := by decide
              simp only [e78]
              clear e78
              obtain ⟨w9, hw9⟩ : ∃ w9, w9 = wr := ⟨_, rfl⟩
              subst hw9
              obtain ⟨pp, hpp⟩ : ∃ pp, pp = pad rs N := ⟨_, rfl⟩
              have hpl2 := pad_len rs N hrl64
              have HBp : Hid (Bs pp) := by rw [hpp]; exact pad_bs rs N (unhide HBr)
              rw [← hpp] at Rr hpl2
              obtain ⟨q, hq⟩ : ∃ q, q = pp.length / 64 := ⟨_, rfl⟩
              rw [← hq] at hpl2
              obtain ⟨hpq, hp128⟩ := hpl2
              have hmp : m = pp.length := Rr.len
              have hown : ∀ i, (Value.slice ao m c).ownBlock = some i → b1 ≠ i := fun i hi => by have := Rr.own i hi; omega
              have hown2 : ∀ i, (Value.slice ao m c).ownBlock = some i → b2 ≠ i := fun i hi => by have := Rr.own i hi; omega
              have hS9 := hide Rr.sl
              have hA9 := hide ((unhide hA6).kept Kr (by simp))
              have hA29 := hide ((unhide hA26).kept Kr (by simp))
              have hK9w : Hid (Kp [b1] w w9) := (unhide hKw).trans (Kr.mono (by simp))
              have HPP := hide hpp
              have HQ := hide hq
              have HPQ := hide hpq
              have hq2 : q ≤ 2 := by omega
              have HMP := hide hmp
              clear Rr Kr hpp hq hmp HR9 HK9 HP hpl hN8 hK8 hR hA6 hA26
              go_wp2_with fail
              go_loopw [6] (fun v wr => ∃ (j m c : Nat) (ao : Option Addr), j ≤ q ∧ v = .slice ao m c ∧ m = 64 * (q - j) ∧ (∀ i, v.ownBlock = some i → b1 ≠ i) ∧ Sl w9 v (pp.drop (64 * j)) ∧ Kp [b1] w9 wr ∧ Ar wr b1 102 (blks j s1 pp)) (fun v _ => (match v with | .slice _ m _ => m | _ => 0))
              case atStart => exact ⟨0, m, c, ao, by omega, rfl, by have := unhide HMP; have := unhide HPQ; omega, hown, by simpa using unhide hS9, Kp.refl _ _, unhide hA9⟩
              case round =>
                obtain ⟨j, m, c, ao, hj, rfl, hm, ho1, Sj, Kr, Aj⟩ := hrel
                have hlj := blks_len s1 pp hlk j
                have hmc : m ≤ c ∧ c ≤ maxLen ∧ (ao = none → c = 0) := by obtain ⟨_, _, e, x1, x2, x3, _⟩ := Sj; injection e with e1 e2 e3; subst e1; subst e3; exact ⟨by omega, x2, x3⟩
                obtain ⟨hmc, hcx, hao⟩ := hmc
                unfold maxLen at hcx
                by_cases hlt : j < q
                · have hge : 64 ≤ m := by omega
                  cases ao with
                  | none => have := hao rfl; omega
                  | some a =>
                  have hgi : (64 : Int) ≤ (m : Int) := by omega
                  have hg0 : (0 : Int) < (m : Int) := by omega
                  have hgc : (64 : Int) ≤ (c : Int) := by omega
                  have hdl : (pp.drop (64 * j)).length = m := by have := unhide HPQ; simp; omega
                  have ST := Sj.take 64 (by omega)
                  have hST : Hid (Sl wr.drew (.slice (some a) 64 c) ((pp.drop (64 * j)).take 64)) := (ST.kept Kr (by intro i hi; have := ho1 i hi; simp; omega)).kept (kp_drew wr) (by simp)
                  have hSD := hide (Sj.drop 64 (by omega))
                  have hdd : (pp.drop (64 * j)).drop 64 = pp.drop (64 * (j + 1)) := by rw [List.drop_drop]; congr 1
                  rw [hdd] at hSD
                  have hb64 : ((pp.drop (64 * j)).take 64).length = 64 := by simp; have := unhide HPQ; omega
                  have hKr := hide Kr
                  obtain ⟨sk, hsk⟩ : ∃ sk, sk = blks j s1 pp := ⟨_, rfl⟩
                  have HSK := hide hsk
                  have AD : Ar wr.drew b1 102 (blks j s1 pp) := Aj
                  rw [← hsk] at AD hlj
                  have hAD := hide AD
                  have hAKr : Hid (Ar wr.drew b2 103 consts) := (unhide hA29).kept Kr.drew (by simpa using Ne.symm hne)
                  have hi : (Tryd.prog.info? 102).map (·.size) = some sk.length := by rw [hlj]; exact Tryd.sz8
                  have HML := hide hm
                  have HO1 := hide ho1
                  have hab1 : b1 ≠ a.block := ho1 a.block rfl
                  clear Sj ST Kr Aj AD hsk hdd hdl hm ho1
                  go_wp2_with fail
                  refine region_tail 3 Tryd.mixed (by kernel_rfl) ?_
                  simp only [List.take_succ_cons, List.take_zero, List.drop_succ_cons, List.drop_zero]
                  go_big_quiet_want
                  refine quiet_load_ar 102 (.tmp 3) rfl b1 rfl _ sk 8 70 (unhide hAD) Tryd.underlying102 hi ?_
                  simp only [Act.put, List.set_cons_zero, List.set_cons_succ, List.setIfInBounds_toArray]
                  go_big_quiet_on
                  repeat (first | go_big_quiet_skip | (go_big_quiet_want; go_big_quiet_op; go_big_quiet_on))
                  refine wpQuiet_nil ?_
                  have hbl := blk_len sk ((pp.drop (64 * j)).take 64) hlj
                  have hi6 : (Tryd.prog.info? 102).map (·.size) = some (blk sk ((pp.drop (64 * j)).take 64)).length := by rw [hbl]; exact Tryd.sz8
                  by_cases hc : c = 64
                  · obtain rfl : c = 64 := hc
                    obtain rfl : m = 64 := by omega
                    go_wp2_with (first
                      | (go_at_call 77; refine (block_any sk b2 _ _ _ hlj (unhide hAKr) (unhide hST) hb64 (((unhide HBp).drop _).take _)).mono ?_; rintro ee w10 ⟨rfl, K10⟩; have A10 := (unhide hAD).kept K10 (by simp))
                      | (refine wpList_store_ar rfl 102 (.tmp 3) (.tmp 56) rfl b1 rfl _ _ _ A10 rfl (by rw [hbl]; exact hlj) hi6 ?_; intro w11 A11 K11 z11))
                    go_roundw
                    case rel =>
                      refine ⟨j + 1, 0, 0, some a, by omega, rfl, by have := unhide HML; omega, unhide HO1, ?_, (((unhide hKr).drew).trans (K10.mono (by simp))).trans K11, ?_⟩
                      · have := unhide hSD; rwa [if_pos trivial] at this
                      · rw [blks_succ, ← unhide HSK]; exact A11
                    case measure => show 0 < 64; omega
                  · go_wp2_with (first
                      | (go_at_call 77; refine (block_any sk b2 _ _ _ hlj (unhide hAKr) (unhide hST) hb64 (((unhide HBp).drop _).take _)).mono ?_; rintro ee w10 ⟨rfl, K10⟩; have A10 := (unhide hAD).kept K10 (by simp))
                      | (refine wpList_store_ar rfl 102 (.tmp 3) (.tmp 56) rfl b1 rfl _ _ _ A10 rfl (by rw [hbl]; exact hlj) hi6 ?_; intro w11 A11 K11 z11))
                    go_roundw
                    case rel =>
                      refine ⟨j + 1, m - 64, c - 64, some (a.add 64), by omega, rfl, by have := unhide HML; omega, ?_, ?_, (((unhide hKr).drew).trans (K10.mono (by simp))).trans K11, ?_⟩
                      · intro i hi
                        have : i = a.block := by have e := hi; simp only [Value.ownBlock, Option.some.injEq] at e; rw [← e]
                        rw [this]; exact hab1
                      · have := unhide hSD; rwa [if_neg hc] at this
                      · rw [blks_succ, ← unhide HSK]; exact A11
                    case measure => show m - 64 < m; omega
                · obtain rfl : j = q := by omega
                  obtain rfl : m = 0 := by omega
                  obtain ⟨w10, hw10⟩ : ∃ w10, w10 = wr := ⟨_, rfl⟩
                  subst hw10
                  obtain ⟨s2, hs2⟩ : ∃ s2, s2 = blks j s1 pp := ⟨_, rfl⟩
                  rw [← hs2] at Aj hlj
                  have hfin : lay8 s2 = sha bs := by
                    have e1 := unhide HN
                    have e2 := unhide HK64
                    unfold sha fin8
                    rw [← e1, ← e2, hs2, unhide HS1, unhide HQ, unhide HPP, unhide HRS, Nat.mul_comm k 64]
                  have HF := hide hfin
                  have hA10 := hide Aj
                  have hl10 := Aj.lt
                  have hK10 : Hid (Kp [] w w10) := ((unhide hK9w).trans Kr).then (Kp.refl [] w10) (by simp) |>.below (Nat.le_refl _) (by simp; omega) |> fun h => ⟨h.os, h.tape, h.output, h.size, fun k hk _ => h.block k hk⟩
                  clear Sj Kr Aj hs2 hfin hA9 hA29 hK9w hS9 ho1 hm hmc
                  go_wp2_with fail
                  go_loopw [8, 9] (fun v i wr => ∃ (k m c : Nat) (ao : Option Addr), k ≤ 8 ∧ v = .slice ao m c ∧ i = .int .i64 k ∧ Row wr w10.heap.size v (lay8 (s2.take k)) ∧ Kp [] w10 wr) (fun _ i _ => 8 - (intOf i).toNat)
                  case atStart => exact ⟨0, 0, 0, none, by omega, rfl, rfl, ⟨rfl, .inl ⟨rfl, rfl⟩⟩, Kp.refl _ _⟩
                  case round =>
                    obtain ⟨k, m, c, ao, hk, rfl, rfl, Rr, Kr⟩ := hrel
                    by_cases hlt : k < 8
                    · have hlt2 : (k : Int) < 8 := by omega
                      have hck := ((unhide hA10).kept Kr (by simp)).cell k (by omega)
                      have hsn := lay8_snoc s2 k (by omega)
                      obtain ⟨x, hx⟩ : ∃ x, x = s2.getD k 0 := ⟨_, rfl⟩
                      rw [← hx] at hck hsn
                      have HS := hide hsn
                      have hll : (lay8 (s2.take k)).length ≤ 32 := by rw [lay8_len]; simp; omega
                      have hRr := hide Rr
                      have hKr := hide Kr
                      clear hx hsn Rr Kr
                      have hnb : b1 ∉ (Value.slice ao m c).ownBlock.toList := by intro h; have := (unhide hRr).own b1 (by simpa using h); omega
                      go_wp2_with fail
                      go_region_held3 (fun W => W.cell? ⟨b1, k, none⟩ = some (.int .u32 x)) (first | go_keep | exact s2'.1.cell (((Kp.refl [] wr).alloc _).drew.cell hck (by simp)) hnb) ((refine step_append_row (by rfl) (.tmp 63) (.tmp 83) (by rfl) w10.heap.size _ _ (by rfl) ((unhide hRr).kept ((Kp.refl [] wr).alloc _).drew (by simp)) _ [_, _, _, _] (by rfl) (Sl.block (cs := [_, _, _, _]) (t := 5) (heap_alloc_new wr _) (by simp [maxLen])) (by simp only [List.length_cons, List.length_nil]; omega) (by have := (unhide hKr).size; simp; omega) ?_; intro ao2 m2 c2 w2 r2 s2'))
                      go_wp2_with fail
                      go_roundw
                      case rel =>
                        refine ⟨k + 1, m2, c2, ao2, by omega, rfl, by go_num, ?_, (unhide hRr).step (unhide hKr) (s2'.after ((Kp.refl [] wr).alloc _).drew)⟩
                        rw [unhide HS]; exact r2
                      case measure => simp [intOf]; omega
                    · obtain rfl : k = 8 := by omega
                      rw [List.take_of_length_le (by omega), unhide HF] at Rr
                      go_wp2_with fail
                      go_ret
                      exact ⟨ao, m, c, rfl, owns_rebase Rr (fun i hi => Nat.le_trans (unhide hK10).size (Rr.own i hi)), (unhide hK10).trans Kr⟩
theorem refsum_at (vb : Value) (bs r : List Int) (hr : r = sha bs) (w : World) (hS : Sl w vb bs) (hB : Bs bs) (hl : bs.length ≤ 1000000000000) :
    Calls Tryd.prog 55 #[vb] w fun e w' => ∃ ao m c, e = .returned (.slice ao m c) ∧ Row w' w.heap.size (.slice ao m c) r ∧ Kp [] w w' := by
  subst hr
  exact refsum_any vb bs w hS hB hl
end Go.Proofs.YtdioaohejoflcaaDoor

/-
  The contracts of the reference's Tagged and of the law package's hex.
-/
namespace Go.Proofs.YtdioaohejoflcaaDoor
open Go.RowKit

set_option maxRecDepth 100000 in
set_option maxHeartbeats 1000000 in
theorem reftagged_any (tag : Int) (vl : Value) (l : List (Value × List Int)) (r : List Int) (hr : r = sha (tag :: cat l)) (w : World) (hL : Lists w vl l) (h0 : 0 ≤ tag) (h1 : tag ≤ 255) (hn : l.length ≤ 100000) (hm : ∀ x ∈ l, x.2.length ≤ 1000000) :
    Calls Tryd.prog 29 #[.int .u8 tag, vl] w fun e w' => ∃ ao m c, e = .returned (.slice ao m c) ∧ Row w' w.heap.size (.slice ao m c) r ∧ Kp [] w w' := by
  have hBl := hL.bs
  have HBl := hide hBl
  have HR := hide hr
  have HM := hide hm
  obtain ⟨al, cl, rfl, hll, hcell⟩ := hL
  have hlen : (l.length : Int) ≤ 100000 := by omega
  have HC := hide hcell
  clear hcell hr hm hBl hll
  go_enter Tryd.func29, Tryd.ntmps29
  go_wp2_with fail
  have R0 : Row (w.alloc (.cells #[.int .u8 tag] 5)) w.heap.size (.slice (some ⟨w.heap.size, 0, none⟩) 1 1) [tag] := row_of_block (bs := [tag]) (Nat.le_refl _) (heap_alloc_new w _) rfl (by simp [maxLen])
  have hR0 := hide R0
  clear R0
  go_loopw [5, 6] (fun v i wr => ∃ (k m c : Nat) (ao : Option Addr), k ≤ l.length ∧ v = .slice ao m c ∧ i = .int .i64 k ∧ Row wr w.heap.size v (tag :: cat (l.take k)) ∧ Kp [] w wr) (fun _ i _ => l.length - (intOf i).toNat)
  case atStart => exact ⟨0, 1, 1, some ⟨w.heap.size, 0, none⟩, Nat.zero_le _, rfl, rfl, by simpa [cat] using unhide hR0, (Kp.refl [] w).alloc _⟩
  case round =>
    obtain ⟨k, m, c, ao, hk, rfl, rfl, Rr, Kr⟩ := hrel
    by_cases hlt : k < l.length
    · have hlt2 : (k : Int) < (l.length : Int) := by omega
      obtain ⟨b, off, rfl, hc, hS, hB⟩ := unhide HC k hlt
      have hcl : (cat (l.take k)).length ≤ 100000 * 1000000 := by
        have e1 := cat_len (l.take k) 1000000 (fun x hx => unhide HM x (List.mem_of_mem_take hx))
        have e2 : (l.take k).length ≤ 100000 := by simp; omega
        exact Nat.le_trans e1 (Nat.mul_le_mul_right _ e2)
      have hxl := unhide HM l[k] (List.getElem_mem hlt)
      have hE := cat_take l k hlt
      obtain ⟨x, hx⟩ : ∃ x, x = l[k] := ⟨_, rfl⟩
      rw [← hx] at hc hS hxl hE
      have hcw := Kr.cell hc (by simp)
      have hSw := hS.kept Kr (by simp)
      obtain ⟨ax, cx, hxv⟩ : ∃ ax cx, x.1 = .slice ax x.2.length cx := by obtain ⟨ax, cx, e, _⟩ := hS; exact ⟨ax, cx, e⟩
      have HE := hide hE
      rw [hxv] at hSw hcw
      have HSw := hide hSw
      obtain ⟨nx, hnx⟩ : ∃ nx, nx = x.2.length := ⟨_, rfl⟩
      rw [← hnx] at HSw hcw
      clear hE hx hc hS hB hSw hxv HC hnx
      go_wp2_with (at_builtin; refine wpList_append_row rfl (.tmp 15) (.tmp 19) rfl w.heap.size _ _ rfl Rr _ x.2 rfl (unhide HSw) (by simp only [List.length_cons]; omega) Kr.size ?_; intro ao2 m2 c2 w2 r2 s2)
      go_roundw
      case rel =>
        refine ⟨k + 1, m2, c2, ao2, by omega, rfl, by go_num, ?_, Rr.step Kr s2⟩
        rw [unhide HE]; exact r2
      case measure => simp [intOf]; omega
    · obtain rfl : k = l.length := by omega
      rw [List.take_length] at Rr
      have hcl := cat_len l 1000000 (unhide HM)
      have hmul := Nat.mul_le_mul_right 1000000 hn
      have hRr := hide Rr
      have hKr := hide Kr
      have hBt : Hid (Bs (tag :: cat l)) := fun b hb => by
        rcases List.mem_cons.1 hb with rfl | hb
        · exact ⟨h0, h1⟩
        · exact cat_bs l (unhide HBl) b hb
      clear Rr Kr HC
      go_wp2_with (go_at_call 55; refine (refsum_at _ (tag :: cat l) r (unhide HR) _ (unhide hRr).sl (unhide hBt) (by simp only [List.length_cons]; omega)).mono ?_; rintro ee w3 ⟨ao3, m3, c3, rfl, R3, K3⟩)
      go_ret
      exact ⟨ao3, m3, c3, rfl, owns_rebase R3 (fun i hi => Nat.le_trans (unhide hKr).size (R3.own i hi)), (unhide hKr).trans K3⟩
end Go.Proofs.YtdioaohejoflcaaDoor

/-
  The contract of the reference's Digest.
-/
namespace Go.Proofs.YtdioaohejoflcaaDoor
open Go.RowKit

set_option maxRecDepth 100000 in
set_option maxHeartbeats 1000000 in
theorem refdigest_any (vb : Value) (bs : List Int) (d : Int) (hd : d = digP bs) (w : World) (hS : Sl w vb bs) (hB : Bs bs) (hl : bs.length ≤ 1000000) :
    Calls Tryd.prog 62 #[vb] w fun e w' => e = .returned (.int .u32 d) ∧ Kp [] w w' := by
  have HL := hide (lists1 hS hB)
  obtain ⟨ab, cb, hvb, _⟩ := hS
  obtain ⟨nb, hnb⟩ : ∃ n, n = bs.length := ⟨_, rfl⟩
  rw [← hnb] at hvb
  subst hvb
  obtain ⟨r, hr⟩ : ∃ r, r = sha (13 :: cat [(Value.slice ab nb cb, bs)]) := ⟨_, rfl⟩
  have HR := hide hr
  have HRL : Hid (r.length = 32) := by rw [hr]; exact sha_len _
  have HRB : Bs r := by rw [hr]; exact sha_bs _
  have HRD : d = val (r.take 4) := by rw [hr, hd, cat1]; rfl
  obtain ⟨x0, x1, x2, x3, tl, hrx⟩ : ∃ x0 x1 x2 x3 tl, r = x0 :: x1 :: x2 :: x3 :: tl := by
    match r, unhide HRL with
    | x0 :: x1 :: x2 :: x3 :: tl, _ => exact ⟨_, _, _, _, _, rfl⟩
  have b0 : 0 ≤ x0 ∧ x0 ≤ 255 := HRB x0 (by simp [hrx])
  have b1 : 0 ≤ x1 ∧ x1 ≤ 255 := HRB x1 (by simp [hrx])
  have b2 : 0 ≤ x2 ∧ x2 ≤ 255 := HRB x2 (by simp [hrx])
  have b3 : 0 ≤ x3 ∧ x3 ≤ 255 := HRB x3 (by simp [hrx])
  have HW : Hid (wd x0 x1 x2 x3 = d) := by rw [wd_val _ _ _ _ b0 b1 b2 b3, HRD, hrx]; rfl
  have HX := hide hrx
  obtain ⟨y0, y0'⟩ := b0
  obtain ⟨y1, y1'⟩ := b1
  obtain ⟨y2, y2'⟩ := b2
  obtain ⟨y3, y3'⟩ := b3
  clear hd hr hnb hB HRB HRD hrx
  go_enter Tryd.func62, Tryd.ntmps62
  go_wp2_with (go_at_call 29; refine (reftagged_any 13 _ _ r (unhide HR) _ (unhide HL) (by omega) (by omega) (by simp) (by simpa using hl)).mono ?_; rintro ee w2 ⟨ao2, m2, c2, rfl, R2, K2⟩; obtain rfl : m2 = 32 := R2.len.trans (unhide HRL))
  obtain ⟨b2, o2, rfl, hnn, hcell⟩ := R2.sl.spot (by omega)
  clear hnn
  have HK := hide (((Kp.refl [] w).alloc (.cells #[.slice ab nb cb] 24)).trans K2)
  have hq : ∀ k x, (x0 :: x1 :: x2 :: x3 :: tl)[k]? = some x → w2.cell? ⟨b2, o2 + k, none⟩ = some (.int .u8 x) := fun k x hx => by
    have e := unhide HX
    have hk : k < r.length := by rw [e]; exact (List.getElem?_eq_some_iff.1 hx).1
    rw [hcell k hk]
    have : r[k] = x := by
      have h1 : r[k]? = some x := by rw [e]; exact hx
      rw [List.getElem?_eq_getElem hk] at h1
      exact Option.some.inj h1
    rw [this]
  have q0 := hq 0 x0 rfl
  have q1 := hq 1 x1 rfl
  have q2 := hq 2 x2 rfl
  have q3 := hq 3 x3 rfl
  rw [Nat.add_zero] at q0
  clear R2 K2 hcell HL HR HX HRL hq
  go_quiet (fail)
  go_wp2_with fail
  go_ret
  exact ⟨congrArg (fun x => Ending.returned (Value.int .u32 x)) (unhide HW), (unhide HK).trans (kp_drewN _ _)⟩
end Go.Proofs.YtdioaohejoflcaaDoor

/-
  The contracts of the law package's helpers Seed and Lists, and of known.
-/
namespace Go.Proofs.YtdioaohejoflcaaDoor
open Go.RowKit
open Go.Deep

set_option maxRecDepth 100000 in
set_option maxHeartbeats 1000000 in
theorem seed_any (n : Int) (w : World) (hn : -9223372036854775808 ≤ n ∧ n ≤ 9223372036854775807) :
    Calls Tryd.prog 10 #[.int .i64 n] w fun e w' => ∃ ao m c r, e = .returned (.slice ao m c) ∧ Row w' w.heap.size (.slice ao m c) r ∧ r.length = 32 ∧ Bs r ∧ Kp [] w w' := by
  have HW := hide (within_any n 0 1000 w (by omega) (by omega) (by omega) hn)
  clear hn
  go_enter Tryd.func10, Tryd.ntmps10
  go_wp2_with fail
  refine (unhide HW).mono ?_
  rintro ee w1 ⟨x, rfl, hx0, hx1, hw⟩
  subst w1
  clear HW
  go_wp2_with fail
  obtain ⟨ob, hob⟩ : ∃ o : Obj, o = (.cells #[.int .u8 (x % 5)] 5) := ⟨_, rfl⟩
  have hP : Sl (w.alloc ob) (.slice (some ⟨w.heap.size, 0, none⟩) 1 1) [x % 5] := by
    rw [hob]; exact Sl.block (cs := [x % 5]) (t := 5) (fr := (0, 0)) (heap_alloc_new w _) (by simp [maxLen])
  have hPB : Bs [x % 5] := by
    intro b hb
    obtain rfl : b = x % 5 := by simpa using hb
    omega
  have Ka := (Kp.refl [] w).alloc ob
  have HL := lists1 hP hPB
  rw [show (w.alloc ob).heap.size = w.heap.size + 1 by simp] at HL
  have HK := hide (Ka.alloc (.cells #[.slice (some ⟨w.heap.size, 0, none⟩) 1 1] 24))
  rw [← hob]
  refine (reftagged_any 99 _ _ _ rfl _ HL (by omega) (by omega) (by simp) (by simp)).mono ?_
  rintro ee w2 ⟨ao2, m2, c2, rfl, R2, K2⟩
  obtain ⟨r, hr⟩ : ∃ r, r = sha (99 :: cat [(Value.slice (some ⟨w.heap.size, 0, none⟩) 1 1, [x % 5])]) := ⟨_, rfl⟩
  rw [← hr] at R2
  have HR2 := hide (row_new R2 (unhide HK))
  have HK2 := hide ((unhide HK).trans K2)
  have HRL : Hid (r.length = 32 ∧ Bs r) := by rw [hr]; exact ⟨sha_len _, sha_bs _⟩
  clear HL HK hob R2 K2 Ka hP hPB hr
  go_wp2_with fail
  go_ret
  exact ⟨ao2, m2, c2, r, rfl, unhide HR2, (unhide HRL).1, (unhide HRL).2, unhide HK2⟩

end Go.Proofs.YtdioaohejoflcaaDoor

/-
  The contract of the law package's known.
-/
namespace Go.Proofs.YtdioaohejoflcaaDoor
open Go.RowKit

theorem bs109 : Bs [109] := fun b hb => by
  obtain rfl : b = 109 := by simpa using hb
  omega
theorem sl109 (w : World) : Sl (w.alloc (.cells #[.int .u8 109] 5 (1, 2))) (.slice (some ⟨w.heap.size, 0, none⟩) 1 1) [109] := Sl.block (cs := [109]) (t := 5) (fr := (1, 2)) (heap_alloc_new w _) (by simp [maxLen])

end Go.Proofs.YtdioaohejoflcaaDoor

/-
  Lists of slices by their bytes, as what an operation yields.
-/
namespace Go.Proofs.YtdioaohejoflcaaDoor
open Go.RowKit
theorem wrap_at {x y : Int} (h : x = y) (h0 : -9223372036854775808 ≤ x) (h1 : x ≤ 9223372036854775807) : IntKind.i64.wrap x = y := by
  subst h
  simp [IntKind.wrap, IntKind.signed, IntKind.bits]
  omega
/-- The value is a slice of slices that reads as these bytes. -/
def LsM (ls : List (List Int)) : Tell := fun v w => ∃ l, Lists w v l ∧ l.map (·.2) = ls
theorem stable_lsm (ls : List (List Int)) : Tell.stable (LsM ls) := fun _ _ _ k ⟨l, h, e⟩ => ⟨l, h.kept k, e⟩
theorem grown_build1 {o : Oper} {a : Act} {w : World} (x : Operand) (ho : o.op = .buildSlice 31 1 #[(0, x)]) (bs : List Int) (h : Sl w (a.eval x) bs) (hB : Bs bs) : grown Tryd.prog w (LsM [bs]) ((execOp a.eval o).run Tryd.prog w) := by
  have h2 := lists1 h hB
  obtain ⟨ao, c, e, _⟩ := h
  refine grown_run (v := .slice (some ⟨w.heap.size, 0, none⟩) 1 1) (w' := w.alloc (.cells #[a.eval x] 24)) ?_ ((Kp.refl _ _).alloc _) ⟨_, h2, rfl⟩
  obtain ⟨ρ, hρ, hc, hf, hg⟩ := eval_is a
  rw [hρ] at e ⊢
  unfold execOp
  simp only [ho]
  simp [go_sem, e]
theorem reftagged_lsm {tag : Int} {v : Value} {ls : List (List Int)} {w : World} (r : List Int) (hr : r = sha (tag :: ls.flatten)) (h : LsM ls v w) (h0 : 0 ≤ tag) (h1 : tag ≤ 255) (hn : ls.length ≤ 100000) (hm : ∀ x ∈ ls, x.length ≤ 1000000) :
    Calls Tryd.prog 29 #[.int .u8 tag, v] w fun e w' => ∃ ao m c, e = .returned (.slice ao m c) ∧ Row w' w.heap.size (.slice ao m c) r ∧ Kp [] w w' := by
  obtain ⟨l, hL, he⟩ := h
  exact reftagged_any tag v l r (by rw [hr, cat_map he]) w hL h0 h1 (by rw [← List.length_map (f := (·.2)), he]; exact hn) (small_of_map he hm)
end Go.Proofs.YtdioaohejoflcaaDoor

/-
  Signatures in memory; the contracts of package sign's small functions: isSeed, isKey, areHashes, Right.
-/
namespace Go.Proofs.YtdioaohejoflcaaDoor
open Go.RowKit

/-- v is a signature: its number, its parts, its path. -/
def SigV (w : World) (v : Value) (i : Int) (ps qs : List (List Int)) : Prop :=
  ∃ vp vq lp lq, v = .agg #[.int .i64 i, vp, vq] ∧ Lists w vp lp ∧ lp.map (·.2) = ps ∧ Lists w vq lq ∧ lq.map (·.2) = qs
theorem SigV.kept {w w' : World} {v : Value} {i : Int} {ps qs : List (List Int)} (h : SigV w v i ps qs) (k : Kp [] w w') : SigV w' v i ps qs := by
  obtain ⟨vp, vq, lp, lq, e, h1, h2, h3, h4⟩ := h
  exact ⟨vp, vq, lp, lq, e, h1.kept k, h2, h3.kept k, h4⟩
theorem SigV.bs {w : World} {v : Value} {i : Int} {ps qs : List (List Int)} (h : SigV w v i ps qs) : (∀ x ∈ ps, Bs x) ∧ ∀ x ∈ qs, Bs x := by
  obtain ⟨vp, vq, lp, lq, e, h1, rfl, h3, rfl⟩ := h
  refine ⟨fun x hx => ?_, fun x hx => ?_⟩
  · obtain ⟨y, hy, rfl⟩ := List.mem_map.1 hx; exact h1.bs y hy
  · obtain ⟨y, hy, rfl⟩ := List.mem_map.1 hx; exact h3.bs y hy
/-- are these n hashes? -/
def hsP (n : Nat) (ls : List (List Int)) : Bool := ls.length == n && ls.all (fun x => x.length == 32)
theorem hsP_bad {n : Nat} {ls : List (List Int)} (k : Nat) (h : k < ls.length) (hb : ls[k].length ≠ 32) : hsP n ls = false := by
  unfold hsP
  have : ls.all (fun x => x.length == 32) = false := by
    rw [List.all_eq_false]
    exact ⟨ls[k], List.getElem_mem h, by simpa using hb⟩
  rw [this, Bool.and_false]
theorem hsP_good {n : Nat} {ls : List (List Int)} (h : ls.length = n) (hb : ∀ i (h : i < ls.length), ls[i].length = 32) : hsP n ls = true := by
  unfold hsP
  rw [Bool.and_eq_true]
  refine ⟨by simp [h], List.all_eq_true.2 (fun x hx => ?_)⟩
  obtain ⟨i, hi, rfl⟩ := List.getElem_of_mem hx
  simp [hb i hi]
theorem hsP_short {n : Nat} {ls : List (List Int)} (h : ls.length ≠ n) : hsP n ls = false := by
  unfold hsP
  simp [h]
theorem rgtP_hs (i : Int) (ps qs : List (List Int)) : rgtP i ps qs = (decide (0 ≤ i ∧ i < 16) && (hsP 64 ps && hsP 4 qs)) := rfl

theorem isSeed_any (vb : Value) (bs : List Int) (w : World) (hS : Sl w vb bs) (hl : bs.length = 32) :
    Calls Tryd.prog 30 #[vb] w fun e w' => e = .returned (.bool true) ∧ w' = w := by
  obtain ⟨ab, cb, rfl, _⟩ := hS
  rw [hl]
  go_enter Tryd.func30, Tryd.ntmps30
  go_wp2_with fail
  go_ret
  exact ⟨rfl, rfl⟩
theorem isSeed_no (vb : Value) (bs : List Int) (w : World) (hS : Sl w vb bs) (hl : bs.length ≠ 32) :
    Calls Tryd.prog 30 #[vb] w fun e w' => e = .returned (.bool false) ∧ w' = w := by
  obtain ⟨ab, cb, rfl, _⟩ := hS
  have h1 : ((bs.length : Int) == 32) = false := beq_eq_false_iff_ne.2 (by omega)
  go_enter Tryd.func30, Tryd.ntmps30
  go_wp2_with fail
  go_ret
  exact ⟨by first | rfl | simp [h1], rfl⟩
theorem isKey_any (i : Int) (b : Bool) (hb : b = decide (0 ≤ i ∧ i < 16)) (w : World) :
    Calls Tryd.prog 33 #[.int .i64 i] w fun e w' => e = .returned (.bool b) ∧ w' = w := by
  by_cases h1 : 0 ≤ i
  · by_cases h2 : i < 16
    · obtain rfl : b = true := by rw [hb]; exact decide_eq_true ⟨h1, h2⟩
      clear hb
      go_enter Tryd.func33, Tryd.ntmps33
      go_wp2_with fail
      go_ret
      exact ⟨rfl, rfl⟩
    · obtain rfl : b = false := by rw [hb]; exact decide_eq_false (fun h => h2 h.2)
      clear hb
      go_enter Tryd.func33, Tryd.ntmps33
      go_wp2_with fail
      go_ret
      exact ⟨rfl, rfl⟩
  · obtain rfl : b = false := by rw [hb]; exact decide_eq_false (fun h => h1 h.1)
    clear hb
    go_enter Tryd.func33, Tryd.ntmps33
    go_wp2_with fail
    go_ret
    exact ⟨rfl, rfl⟩

set_option maxRecDepth 100000 in
set_option maxHeartbeats 1000000 in
theorem hashes_any (vl : Value) (l : List (Value × List Int)) (n : Nat) (b : Bool) (hb : b = hsP n (l.map (·.2))) (w : World) (hL : Lists w vl l) (hnb : n ≤ 1000) :
    Calls Tryd.prog 64 #[vl, .int .i64 n] w fun e w' => e = .returned (.bool b) ∧ w' = w := by
  obtain ⟨al, cl, rfl, hll, hcell⟩ := hL
  have hnbi : (n : Int) ≤ 1000 := by omega
  by_cases hn : l.length = n
  · have HN := hide hn
    have HB := hide hb
    have HC := hide hcell
    rw [hn]
    clear hcell hb hll hn
    go_enter Tryd.func64, Tryd.ntmps64
    go_wp2_with fail
    go_loopw [13] (fun i wr => ∃ k : Nat, k ≤ n ∧ i = .int .i64 k ∧ (∀ i (h : i < l.length), i < k → l[i].2.length = 32) ∧ wr = w) (fun i _ => n - (intOf i).toNat)
    case atStart => exact ⟨0, by omega, rfl, (fun i h h' => by omega), rfl⟩
    case round =>
      obtain ⟨k, hk, rfl, hgood, hw⟩ := hrel
      subst wr
      have HGood := hide hgood
      clear hgood
      by_cases hlt : k < n
      · have hlt2 : (k : Int) < (n : Int) := by omega
        have hkl : k < l.length := by have := unhide HN; omega
        obtain ⟨b', off, rfl, hc, hS, _⟩ := unhide HC k hkl
        obtain ⟨x, hx⟩ : ∃ x, x = l[k] := ⟨_, rfl⟩
        have HX := hide hx
        rw [← hx] at hc hS
        obtain ⟨ax, cx, hxv, _⟩ := hS
        rw [hxv] at hc
        clear hxv hx HC
        by_cases h32 : x.2.length = 32
        · rw [h32] at hc
          go_wp2_with fail
          go_roundw
          case rel =>
            refine ⟨k + 1, by omega, by go_num, fun i hi hik => ?_, by trivial⟩
            rcases Nat.lt_or_ge i k with h | h
            · exact unhide HGood i hi h
            · obtain rfl : i = k := by omega
              rw [← unhide HX]; exact h32
          case measure => simp [intOf]; omega
        · have hbad := hsP_bad (n := n) (ls := l.map (·.2)) k (by simpa using hkl) (by simp [← unhide HX, h32])
          have h32i : ¬ (x.2.length : Int) = 32 := by omega
          go_wp2_with fail
          go_ret
          exact ⟨by rw [unhide HB, hbad]; rfl, rfl⟩
      · obtain rfl : k = n := by omega
        have hgd := hsP_good (n := k) (ls := l.map (·.2)) (by rw [List.length_map]; exact unhide HN) (fun i hi => by
          have hi2 : i < l.length := by simpa using hi
          simp only [List.getElem_map]
          exact unhide HGood i hi2 (by have := unhide HN; omega))
        have hlt2 : ¬ (k : Int) < (k : Int) := by omega
        clear HC
        go_wp2_with fail
        go_ret
        exact ⟨by rw [unhide HB, hgd]; rfl, rfl⟩
  · have hbad := hsP_short (n := n) (ls := l.map (·.2)) (by rw [List.length_map]; exact hn)
    have hni : ¬ (l.length : Int) = (n : Int) := by omega
    rw [hbad] at hb
    subst hb
    clear hcell hbad
    go_enter Tryd.func64, Tryd.ntmps64
    go_wp2_with fail
    go_ret
    exact ⟨rfl, rfl⟩
end Go.Proofs.YtdioaohejoflcaaDoor

/-
  The contract of package sign's Right.
-/
namespace Go.Proofs.YtdioaohejoflcaaDoor
open Go.RowKit

theorem Lists.shape {w : World} {v : Value} {l : List (Value × List Int)} (h : Lists w v l) : ∃ ao c, v = .slice ao l.length c := by obtain ⟨ao, c, e, _⟩ := h; exact ⟨ao, c, e⟩
/-- a signature's own shape. -/
theorem SigV.shape {w : World} {v : Value} {i : Int} {ps qs : List (List Int)} (h : SigV w v i ps qs) : ∃ ap np cp aq nq cq lp lq, v = .agg #[.int .i64 i, .slice ap np cp, .slice aq nq cq] ∧ Lists w (.slice ap np cp) lp ∧ lp.map (·.2) = ps ∧ Lists w (.slice aq nq cq) lq ∧ lq.map (·.2) = qs ∧ np = ps.length ∧ nq = qs.length := by
  obtain ⟨vp, vq, lp, lq, e, h1, h2, h3, h4⟩ := h
  obtain ⟨ap, cp, e1⟩ := h1.shape
  obtain ⟨aq, cq, e2⟩ := h3.shape
  subst e1
  subst e2
  exact ⟨ap, _, cp, aq, _, cq, lp, lq, e, h1, h2, h3, h4, by rw [← h2]; simp, by rw [← h4]; simp⟩

set_option maxRecDepth 100000 in
set_option maxHeartbeats 1000000 in
theorem sright_any (v : Value) (i : Int) (ps qs : List (List Int)) (b : Bool) (hb : b = rgtP i ps qs) (w : World) (hV : SigV w v i ps qs) :
    Calls Tryd.prog 37 #[v] w fun e w' => e = .returned (.bool b) ∧ Kp [] w w' := by
  obtain ⟨ap, np, cp, aq, nq, cq, lp, lq, rfl, hP, hp, hQ, hq, hnp, hnq⟩ := hV.shape
  clear hnp hnq
  obtain ⟨ob, hob⟩ : ∃ o : Obj, o = (.cells #[.int .i64 i, .slice ap np cp, .slice aq nq cq] 33) := ⟨_, rfl⟩
  have HK : Hid (Kp [] w (w.alloc ob)) := (Kp.refl [] w).alloc ob
  rw [rgtP_hs] at hb
  obtain ⟨b1, h1⟩ : ∃ b, b = decide (0 ≤ i ∧ i < 16) := ⟨_, rfl⟩
  obtain ⟨b2, h2⟩ : ∃ b, b = hsP 64 ps := ⟨_, rfl⟩
  obtain ⟨b3, h3⟩ : ∃ b, b = hsP 4 qs := ⟨_, rfl⟩
  have H1 := hide (fun w => isKey_any i b1 h1 w)
  have H2 := hide (hashes_any (.slice ap np cp) lp 64 b2 (by rw [h2, hp]) (w.alloc ob) (hP.kept (unhide HK)) (by omega))
  have H3 := hide (hashes_any (.slice aq nq cq) lq 4 b3 (by rw [h3, hq]) (w.alloc ob) (hQ.kept (unhide HK)) (by omega))
  rw [← h1, ← h2, ← h3] at hb
  rw [hob] at H2 H3 HK
  clear hV hP hQ hp hq h1 h2 h3 hob
  cases b1
  · obtain rfl : b = false := hb
    clear H2 H3
    go_enter Tryd.func37, Tryd.ntmps37
    go_wp2_with (go_at_call 33; refine (unhide H1 _).mono ?_; rintro ee w2 ⟨rfl, hw⟩; subst w2)
    go_ret
    exact ⟨rfl, unhide HK⟩
  · cases b2
    · obtain rfl : b = false := hb
      clear H3
      go_enter Tryd.func37, Tryd.ntmps37
      go_wp2_with (first
        | (go_at_call 33; refine (unhide H1 _).mono ?_; rintro ee w2 ⟨rfl, hw⟩; subst w2)
        | (go_at_call 64; refine (unhide H2).mono ?_; rintro ee w3 ⟨rfl, hw⟩; subst w3))
      go_ret
      exact ⟨rfl, unhide HK⟩
    · have hb3 : b = b3 := by simpa using hb
      clear hb
      subst hb3
      go_enter Tryd.func37, Tryd.ntmps37
      go_wp2_with (go_at_call 33; refine (unhide H1 _).mono ?_; rintro ee w2 ⟨rfl, hw⟩; subst w2)
      refine (unhide H2).mono ?_
      rintro ee w3 ⟨rfl, hw⟩
      subst w3
      go_wp2_with fail
      refine (unhide H3).mono ?_
      rintro ee w4 ⟨rfl, hw⟩
      subst w4
      go_wp2_with fail
      go_ret
      exact ⟨rfl, unhide HK⟩
end Go.Proofs.YtdioaohejoflcaaDoor

/-
  The contracts of package sign's nodes: nodeAbove, leaves, above.
-/
namespace Go.Proofs.YtdioaohejoflcaaDoor
open Go.RowKit
open Go.Proofs

set_option maxRecDepth 100000 in
set_option maxHeartbeats 1000000 in
theorem node_any (va vb : Value) (xs bs : List Int) (r : List Int) (hr : r = nodeP xs bs) (w : World) (hA : Sl w va xs) (hAB : Bs xs) (hB : Sl w vb bs) (hBB : Bs bs) (hal : xs.length ≤ 1000) (hbl : bs.length ≤ 1000) (hG : Gl w) :
    Calls Tryd.prog 57 #[va, vb] w fun e w' => ∃ ao m c, e = .returned (.slice ao m c) ∧ Row w' w.heap.size (.slice ao m c) r ∧ Kp [] w w' := by
  have HG := hide hG
  have HR := hide hr
  have HL := lists2 hA hAB hB hBB
  obtain ⟨aa, ca, hva, _⟩ := hA
  obtain ⟨ab, cb, hvb, _⟩ := hB
  obtain ⟨na, hna⟩ : ∃ n, n = xs.length := ⟨_, rfl⟩
  obtain ⟨nb, hnb⟩ : ∃ n, n = bs.length := ⟨_, rfl⟩
  rw [← hna] at hva
  rw [← hnb] at hvb
  subst hva
  subst hvb
  have HL2 := hide HL
  have HK := hide ((Kp.refl [] w).alloc (.cells #[.slice aa na ca, .slice ab nb cb] 24))
  clear HL hG hr hna hnb
  go_enter Tryd.func57, Tryd.ntmps57
  go_wp2_with fail
  refine (tagged_any 14 _ _ r (by rw [unhide HR, cat2]; rfl) _ (unhide HL2) (by omega) (by omega) (by simp) (by simp; omega) ((unhide HG).kept (unhide HK) (by simp))).mono ?_
  rintro ee w2 ⟨a2, m2, c2, rfl, R2, K2⟩
  have HR2 := hide (row_new R2 (unhide HK))
  have HK2 := hide ((unhide HK).trans K2)
  clear R2 K2 HL2 HK HR
  go_wp2_with fail
  go_ret
  exact ⟨a2, m2, c2, rfl, unhide HR2, unhide HK2⟩

set_option maxRecDepth 100000 in
set_option maxHeartbeats 1000000 in
theorem leaves_any (vb : Value) (bs : List Int) (w : World) (hS : Sl w vb bs) (hB : Bs bs) (hl : bs.length ≤ 1000) (hG : Gl w) :
    Calls Tryd.prog 31 #[vb] w fun e w' => ∃ ao m c, e = .returned (.slice ao m c) ∧ Acc w (lvsP bs 16) (.slice ao m c) w' := by
  obtain ⟨i0, hi0, hz0, hz1, hz2⟩ := info_parts Tryd.infoSl
  have HS := hide hS
  have HG := hide hG
  have HB := hide hB
  obtain ⟨ab, cb, hvb, _⟩ := hS
  obtain ⟨nb, hnb⟩ : ∃ n, n = bs.length := ⟨_, rfl⟩
  rw [← hnb] at hvb
  subst hvb
  clear hG hB hnb
  go_enter Tryd.func31, Tryd.ntmps31
  go_wp2_with (at_make; refine wpList_make_own _ rfl _ _ 31 rfl w.heap.size 24 i0 (.slice none 0 0) 1 Tryd.underlying31 hi0 hz0 hz1 .i64 .i64 _ 16 rfl rfl (by omega) (by rw [hz2]; omega) (by unfold maxLen; omega) (Nat.le_refl _) ?_; intro w1 o1 g1; have K1 : Kp [] w w1 := (Kp.refl [] w).grown g1 (by intro k hk; cases hk); have R1 : RowV w1 w.heap.size _ [] := o1)
  have A1 : Hid (Acc w (lvsP bs 0) (.slice (some ⟨w.heap.size, 0, none⟩) 0 16) w1) := ⟨[], ⟨R1, fun x hx => by cases hx⟩, rfl, K1⟩
  clear o1 g1 R1 K1
  go_loopw [3, 6] (fun v i wr => ∃ (k m cc : Nat) (ao : Option Addr), k ≤ 16 ∧ v = .slice ao m cc ∧ i = .int .i64 k ∧ Acc w (lvsP bs k) v wr) (fun _ i _ => 16 - (intOf i).toNat)
  case atStart => exact ⟨0, 0, 16, some ⟨w.heap.size, 0, none⟩, by omega, rfl, rfl, unhide A1⟩
  case round =>
    obtain ⟨k, m, cc, ao, hk, rfl, rfl, Ar⟩ := hrel
    clear A1
    have HA := hide Ar
    clear Ar
    by_cases hlt : k < 16
    · have hlt2 : (k : Int) < 16 := by omega
      obtain ⟨r, hr⟩ : ∃ r, r = pubP bs (k : Nat) := ⟨_, rfl⟩
      have HRB : Hid (Bs r) := by rw [hr]; exact pubP_bs _ _
      have HE : Hid (lvsP bs (k + 1) = lvsP bs k ++ [r]) := by rw [hr]; exact lvsP_succ _ _
      have HLN : Hid ((lvsP bs k).length ≤ 1000000) := by rw [lvsP_len]; show k ≤ 1000000; omega
      have HC := hide (public_any (.slice ab nb cb) bs (k : Nat) r hr wr ((unhide HS).kept (unhide HA).kp (by simp)) (unhide HB) hl ((unhide HG).kept (unhide HA).kp (by simp)))
      clear hr
      go_wp2_with fail
      refine (unhide HC).mono ?_
      rintro ee w4 ⟨a4, m4, c4, rfl, R4, K4⟩
      have HR4 := hide R4
      have HK4 := hide K4
      clear R4 K4 HC
      go_wp2_with (at_builtin; refine wpList_acc rfl (.tmp 9) (.tmp 13) rfl _ _ rfl (unhide HA) (unhide HLN) _ r (unhide HK4) (unhide HR4) (unhide HRB) rfl ?_; intro ao5 m5 c5 w5 A5)
      go_roundw
      case rel => exact ⟨k + 1, m5, c5, ao5, by omega, rfl, by go_num, by have e := unhide HE; rw [← e] at A5; exact A5⟩
      case measure => simp [intOf]; omega
    · obtain rfl : k = 16 := by omega
      go_wp2_with fail
      go_ret
      exact ⟨ao, m, cc, rfl, unhide HA⟩

/-- The value is a slice of one slice, which is a row that is new since. -/
def One (base : Nat) (r : List Int) : Tell := fun v w => ∃ g vx, v = .slice (some ⟨g, 0, none⟩) 1 1 ∧ w.cell? ⟨g, 0, none⟩ = some vx ∧ Row w base vx r
theorem stable_one (base : Nat) (r : List Int) : Tell.stable (One base r) := fun _ _ _ k ⟨g, vx, h1, h2, h3⟩ => ⟨g, vx, h1, k.cell h2 (by simp), h3.kept k (by simp)⟩
/-- The value is a row that is new since. -/
def RowT (base : Nat) (r : List Int) : Tell := fun v w => Row w base v r
theorem stable_row (base : Nat) (r : List Int) : Tell.stable (RowT base r) := fun _ _ _ k h => h.kept k (by simp)
theorem grown_one {o : Oper} {a : Act} {w : World} (x : Operand) (ho : o.op = .buildSlice 31 1 #[(0, x)]) (base : Nat) (r : List Int) (h : Row w base (a.eval x) r) : grown Tryd.prog w (One base r) ((execOp a.eval o).run Tryd.prog w) := by
  obtain ⟨ao, c, e⟩ := h.shape
  refine grown_run (v := .slice (some ⟨w.heap.size, 0, none⟩) 1 1) (w' := w.alloc (.cells #[a.eval x] 24)) ?_ ((Kp.refl _ _).alloc _) ⟨w.heap.size, _, rfl, cell_of_one (heap_alloc_new w _), h.kept ((Kp.refl [] w).alloc _) (by simp)⟩
  obtain ⟨ρ, hρ, hc, hf, hg⟩ := eval_is a
  rw [hρ] at e ⊢
  unfold execOp
  simp only [ho]
  simp [go_sem, e]
/-- one more slice behind them, as it lies in a block of its own. -/
theorem wpList_accg {w wr w3 : World} {ops : Array Oper} {rest : List Oper} {o : Oper} {a : Act} {Q : Exit → Act → World → Prop} (hgd : o.guard = none) (s x : Operand)
    (ho : o.op = .call { callee := .builtin .append, args := #[s, x], argTypes := #[31, 31] }) (v : Value) (ls : List (List Int)) (hs : a.eval s = v) (hA : Acc w ls v wr) (hl : ls.length ≤ 1000000)
    (bs : List Int) (k : Kp [] wr w3) (vx : Value) (hx : a.eval x = vx) (h1 : One wr.heap.size bs vx w3) (hb : Bs bs)
    (h : ∀ ao m c w', Acc w (ls ++ [bs]) (.slice ao m c) w' → wpList Tryd.prog ops Q rest (a.put o.dst (.slice ao m c)) w') : wpList Tryd.prog ops Q (o :: rest) a w3 := by
  obtain ⟨l, hP, hl2, hK⟩ := hA
  obtain ⟨g, vy, hv, hc, hr⟩ := h1
  have hP2 := hP.kept k
  obtain ⟨ax, cx, hvx⟩ := hr.shape
  refine wpList_append_rowv hgd s x ho w.heap.size v (l.map (·.1)) hs hP2.1 ⟨g, 0, none⟩ 1 [vy] (by rw [hx, hv]; rfl) ?_ ?_ ?_ ?_ ?_
  · intro j u hu
    have hj : j = 0 := by have := (List.getElem?_eq_some_iff.1 hu).1; simpa using this
    subst hj
    simp at hu
    subst hu
    exact hc
  · simp [hvx, Value.oneCell']
  · have : l.length = ls.length := by rw [← hl2]; simp
    simp; omega
  · have := hK.size
    have := k.size
    omega
  · intro ao m c w' r st
    refine h ao m c w' ⟨l ++ [(vy, bs)], hP.snoc (x := (vy, bs)) k hr hb (Kp.refl _ _) r st hK.size, by simp [hl2], ?_⟩
    exact (hK.trans k).then st.1 (fun i hi => .inr (hP.1.own i (by simpa using hi)))

theorem abv_take (ls : List (List Int)) (k : Nat) (h : k < ls.length / 2) : (abvP ls).take (k + 1) = (abvP ls).take k ++ [nodeP (ls.getD (2 * k) []) (ls.getD (2 * k + 1) [])] := by
  rw [List.take_succ_eq_append_getElem (by rw [abvP_len]; exact h)]
  simp [abvP]
theorem lists_at {w : World} {ao : Option Addr} {n c : Nat} {l : List (Value × List Int)} {ls : List (List Int)} (hL : Lists w (.slice ao n c) l) (he : l.map (·.2) = ls) (i : Nat) (hi : i < ls.length) :
    ∃ b off ax nx cx, ao = some ⟨b, off, none⟩ ∧ w.cell? ⟨b, off + i, none⟩ = some (.slice ax nx cx) ∧ Sl w (.slice ax nx cx) (ls.getD i []) ∧ Bs (ls.getD i []) := by
  subst he
  obtain ⟨ao', c', e, _, h2⟩ := hL
  have hi2 : i < l.length := by simpa using hi
  obtain ⟨b, off, e2, h3, h4, h5⟩ := h2 i hi2
  injection e with e0
  subst e0
  have hg : (l.map (·.2)).getD i [] = l[i].2 := by simp [List.getD, hi2]
  rw [hg]
  obtain ⟨ax, cx, e4, _⟩ := id h4
  rw [e4] at h3 h4
  exact ⟨b, off, ax, _, cx, e2, h3, h4, h5⟩

set_option maxRecDepth 100000 in
set_option maxHeartbeats 4000000 in
theorem above_any (vl : Value) (l : List (Value × List Int)) (ls : List (List Int)) (hls : l.map (·.2) = ls) (hm : ∀ x ∈ ls, x.length ≤ 1000) (w : World) (hL : Lists w vl l) (hn : ls.length ≤ 100) (he : ls.length % 2 = 0) (hG : Gl w) :
    Calls Tryd.prog 32 #[vl] w fun e w' => ∃ ao m c, e = .returned (.slice ao m c) ∧ Acc w (abvP ls) (.slice ao m c) w' := by
  obtain ⟨i0, hi0, hz0, hz1, hz2⟩ := info_parts Tryd.infoSl
  have HG := hide hG
  have HL := hide hL
  have HLS := hide hls
  have HM := hide hm
  have hlen : l.length = ls.length := by rw [← hls]; simp
  obtain ⟨al, cl, hvl, _⟩ := hL
  rw [hlen] at hvl
  subst hvl
  obtain ⟨N, hN⟩ : ∃ N, N = ls.length := ⟨_, rfl⟩
  have HN := hide hN
  rw [← hN] at hn he HL ⊢
  obtain ⟨M, hM⟩ : ∃ M, M = N / 2 := ⟨_, rfl⟩
  have hNM : N = 2 * M := by omega
  have hq : Int.tdiv (N : Int) 2 = (M : Int) := by rw [Int.tdiv_eq_ediv_of_nonneg (by omega)]; omega
  have hq2 : (N : Int) / 2 = (M : Int) := by omega
  have hM100 : (M : Int) ≤ 100 := by omega
  have hNi : (N : Int) ≤ 100 := by omega
  have HNM := hide hNM
  clear hG hlen hls hm hN hM hNM
  go_enter Tryd.func32, Tryd.ntmps32
  go_wp2_with (at_make; refine wpList_make_own _ rfl _ _ 31 rfl w.heap.size 24 i0 (.slice none 0 0) 1 Tryd.underlying31 hi0 hz0 hz1 .i64 .i64 _ M rfl rfl (by omega) (by rw [hz2]; omega) (by unfold maxLen; omega) (Nat.le_refl _) ?_; intro w1 o1 g1; have K1 : Kp [] w w1 := (Kp.refl [] w).grown g1 (by intro k hk; cases hk); have R1 : RowV w1 w.heap.size _ [] := o1)
  have A1 : Hid (Acc w ((abvP ls).take 0) (.slice (some ⟨w.heap.size, 0, none⟩) 0 M) w1) := ⟨[], ⟨R1, fun x hx => by cases hx⟩, rfl, K1⟩
  clear o1 g1 R1 K1
  go_loopw [3, 4] (fun v i wr => ∃ (k m cc : Nat) (ao : Option Addr), k ≤ M ∧ v = .slice ao m cc ∧ i = .int .i64 ((2 * k : Nat) : Int) ∧ Acc w ((abvP ls).take k) v wr) (fun _ i _ => 2 * M - (intOf i).toNat)
  case atStart => exact ⟨0, 0, M, some ⟨w.heap.size, 0, none⟩, by omega, rfl, rfl, unhide A1⟩
  case round =>
    obtain ⟨k, m, cc, ao, hk, rfl, rfl, Ar⟩ := hrel
    clear A1
    have HA := hide Ar
    clear Ar
    obtain ⟨j, hj⟩ : ∃ j, j = 2 * k := ⟨_, rfl⟩
    rw [← hj]
    by_cases hlt : k < M
    · have hlt2 : (j : Int) < (N : Int) := by have := unhide HNM; omega
      have hlt3 : (j : Int) + 1 < (N : Int) := by have := unhide HNM; omega
      have hwr : IntKind.i64.wrap ((j : Int) + 1) = (j : Int) + 1 := wrap_at rfl (by omega) (by omega)
      obtain ⟨b, off, ax, nx, cx, rfl, hcx, hSx, hBx⟩ := lists_at (unhide HL) (unhide HLS) j (by have := unhide HN; have := unhide HNM; omega)
      obtain ⟨b', off', ay, ny, cy, e, hcy, hSy, hBy⟩ := lists_at (unhide HL) (unhide HLS) (j + 1) (by have := unhide HN; have := unhide HNM; omega)
      injection e with e
      injection e with e1 e2
      subst e1
      subst e2
      have hxl : (ls.getD j []).length ≤ 1000 := unhide HM _ (getD_mem (by have := unhide HN; have := unhide HNM; omega))
      have hyl : (ls.getD (j + 1) []).length ≤ 1000 := unhide HM _ (getD_mem (by have := unhide HN; have := unhide HNM; omega))
      obtain ⟨r, hr⟩ : ∃ r, r = nodeP (ls.getD j []) (ls.getD (j + 1) []) := ⟨_, rfl⟩
      have HRB : Hid (Bs r) := by rw [hr]; exact nodeP_bs _ _
      have HE : Hid ((abvP ls).take (k + 1) = (abvP ls).take k ++ [r]) := by rw [hr, hj]; exact abv_take ls k (by have := unhide HN; have := unhide HNM; omega)
      have HLN : Hid (((abvP ls).take k).length ≤ 1000000) := by rw [List.length_take]; show min k _ ≤ 1000000; omega
      obtain ⟨X, hX⟩ : ∃ X, X = ls.getD j [] := ⟨_, rfl⟩
      obtain ⟨Y, hY⟩ : ∃ Y, Y = ls.getD (j + 1) [] := ⟨_, rfl⟩
      rw [← hX] at hSx hBx hxl hr
      rw [← hY] at hSy hBy hyl hr
      have HKr := hide (unhide HA).kp
      have CX : ∀ w', Kp [] wr.drew w' → w'.cell? ⟨b, off + j, none⟩ = some (.slice ax nx cx) := fun w' k' => (((unhide HKr).trans (kp_drew wr)).trans k').cell hcx (by simp)
      have CY : ∀ w', Kp [] wr.drew w' → w'.cell? ⟨b, off + (j + 1), none⟩ = some (.slice ay ny cy) := fun w' k' => (((unhide HKr).trans (kp_drew wr)).trans k').cell hcy (by simp)
      have SX : ∀ w', Kp [] wr.drew w' → Sl w' (.slice ax nx cx) X := fun w' k' => hSx.kept (((unhide HKr).trans (kp_drew wr)).trans k') (by simp)
      have SY : ∀ w', Kp [] wr.drew w' → Sl w' (.slice ay ny cy) Y := fun w' k' => hSy.kept (((unhide HKr).trans (kp_drew wr)).trans k') (by simp)
      have GL : ∀ w', Kp [] wr.drew w' → Gl w' := fun w' k' => (unhide HG).kept (((unhide HKr).trans (kp_drew wr)).trans k') (by simp)
      have BS : ∀ w', Kp [] wr.drew w' → wr.heap.size ≤ w'.heap.size := fun w' k' => k'.size
      have HCX := hide CX
      have HCY := hide CY
      have HSX := hide SX
      have HSY := hide SY
      have HGL := hide GL
      have HR := hide hr
      have HBX := hide hBx
      have HBY := hide hBy
      clear hX hY hcx hcy hSx hSy hBx hBy hr CX CY SX SY GL BS
      have hjj : (j : Int) = 2 * (k : Int) := by omega
      have HJ := hide hjj
      have HJN := hide hj
      clear hjj hj
      go_wp2_with fail
      refine region_grow_tail 12 Tryd.mixed [Is (.slice ao m cc), Is (.slice (some ⟨b, off, none⟩) N cl), Is (.int .i64 j), Is (.pointer (some ⟨b, off + j, none⟩)), Is (.slice ax nx cx), Is (.slice (some ⟨b, off, none⟩) N cl), Is (.int .i64 j), Is (.int .i64 (j + 1)), Is (.pointer (some ⟨b, off + (j + 1), none⟩)), Is (.slice ay ny cy), RowT wr.heap.size r, One wr.heap.size r] [[(3, none)], [(0, none)], [(4, none)], [(16, some 1), (17, some 2)], [(18, some 3)], [(0, none)], [(4, none)], [(21, some 6)], [(20, some 5), (22, some 7)], [(23, some 8)], [(19, some 4), (24, some 9)], [(25, some 10)]] (by kernel_rfl) ?_ ?_ ?_
      all_goals try simp only [List.take_succ_cons, List.take_zero, List.drop_succ_cons, List.drop_zero]
      · simp only [List.mem_cons, List.not_mem_nil, or_false]
        intro R hR
        rcases hR with rfl | rfl | rfl | rfl | rfl | rfl | rfl | rfl | rfl | rfl | rfl | rfl <;> first | exact stable_is _ | exact stable_row _ _ | exact stable_one _ _
      · refine steps_cons (fun a w hk hn => ?_) ?_
        · have h3 : a.eval (.tmp 3) = .slice ao m cc := hn.1
          clear hn
          refine wants_plain rfl ?_
          exact grown_move (.tmp 3) rfl h3
        refine steps_cons (fun a w hk hn => ?_) ?_
        · have h0 : a.eval (.tmp 0) = .slice (some ⟨b, off, none⟩) N cl := hn.1
          clear hn
          refine wants_plain rfl ?_
          exact grown_move (.tmp 0) rfl h0
        refine steps_cons (fun a w hk hn => ?_) ?_
        · have h4 : a.eval (.tmp 4) = .int .i64 j := hn.1
          clear hn
          refine wants_plain rfl ?_
          exact grown_move (.tmp 4) rfl h4
        refine steps_cons (fun a w hk hn => ?_) ?_
        · have h16 : a.eval (.tmp 16) = .slice (some ⟨b, off, none⟩) N cl := hn.1
          have h17 : a.eval (.tmp 17) = .int .i64 j := hn.2.1
          clear hn
          refine wants_plain rfl ?_
          refine grown_run (v := .pointer (some ⟨b, off + j, none⟩)) ?_ (Kp.refl _ _) rfl
          obtain ⟨ρ, hρ, hc, hf, hg⟩ := eval_is a
          rw [hρ] at h16 h17 ⊢
          simp [go_sem, h16, h17, hlt2]
        refine steps_cons (fun a w hk hn => ?_) ?_
        · have h18 : a.eval (.tmp 18) = .pointer (some ⟨b, off + j, none⟩) := hn.1
          clear hn
          refine wants_plain rfl ?_
          refine grown_run (v := .slice ax nx cx) ?_ (Kp.refl _ _) rfl
          have hcell := unhide HCX w hk
          obtain ⟨ρ, hρ, hc, hf, hg⟩ := eval_is a
          rw [hρ] at h18 ⊢
          simp [go_sem, h18, hcell]
        refine steps_cons (fun a w hk hn => ?_) ?_
        · have h0 : a.eval (.tmp 0) = .slice (some ⟨b, off, none⟩) N cl := hn.1
          clear hn
          refine wants_plain rfl ?_
          exact grown_move (.tmp 0) rfl h0
        refine steps_cons (fun a w hk hn => ?_) ?_
        · have h4 : a.eval (.tmp 4) = .int .i64 j := hn.1
          clear hn
          refine wants_plain rfl ?_
          exact grown_move (.tmp 4) rfl h4
        refine steps_cons (fun a w hk hn => ?_) ?_
        · have h21 : a.eval (.tmp 21) = .int .i64 j := hn.1
          clear hn
          refine wants_plain rfl ?_
          refine grown_run (v := .int .i64 (j + 1)) ?_ (Kp.refl _ _) rfl
          obtain ⟨ρ, hρ, hc, hf, hg⟩ := eval_is a
          rw [hρ] at h21 ⊢
          simp [go_sem, hc, h21, hwr]
        refine steps_cons (fun a w hk hn => ?_) ?_
        · have h20 : a.eval (.tmp 20) = .slice (some ⟨b, off, none⟩) N cl := hn.1
          have h22 : a.eval (.tmp 22) = .int .i64 (j + 1) := hn.2.1
          clear hn
          refine wants_plain rfl ?_
          refine grown_run (v := .pointer (some ⟨b, off + (j + 1), none⟩)) ?_ (Kp.refl _ _) rfl
          obtain ⟨ρ, hρ, hc, hf, hg⟩ := eval_is a
          rw [hρ] at h20 h22 ⊢
          simp [go_sem, h20, h22, hlt3]
          intro h; omega
        refine steps_cons (fun a w hk hn => ?_) ?_
        · have h23 : a.eval (.tmp 23) = .pointer (some ⟨b, off + (j + 1), none⟩) := hn.1
          clear hn
          refine wants_plain rfl ?_
          refine grown_run (v := .slice ay ny cy) ?_ (Kp.refl _ _) rfl
          have hcell := unhide HCY w hk
          obtain ⟨ρ, hρ, hc, hf, hg⟩ := eval_is a
          rw [hρ] at h23 ⊢
          simp [go_sem, h23, hcell]
        refine steps_cons (fun a w hk hn => ?_) ?_
        · have h19 : a.eval (.tmp 19) = .slice ax nx cx := hn.1
          have h24 : a.eval (.tmp 24) = .slice ay ny cy := hn.2.1
          clear hn
          refine wants_plain rfl ?_
          refine grown_call (f := 57) rfl Tryd.func57 (by kernel_rfl) (by kernel_rfl) ?_
          simp only [List.map_toArray, List.map_cons, List.map_nil, h19, h24]
          refine (node_any _ _ X Y r (unhide HR) w (unhide HSX w hk) (unhide HBX) (unhide HSY w hk) (unhide HBY) hxl hyl (unhide HGL w hk)).mono ?_
          rintro e w' ⟨ao, m, c, rfl, R, K⟩
          exact ⟨_, rfl, K, owns_rebase R (fun i hi => Nat.le_trans hk.size (R.own i hi))⟩
        refine steps_cons (fun a w hk hn => ?_) ?_
        · have h25 : (RowT wr.heap.size r) (a.eval (.tmp 25)) w := hn.1
          clear hn
          refine wants_plain rfl ?_
          exact grown_one (.tmp 25) rfl wr.heap.size r h25
        exact trivial
      intro W1 hkW1
      rintro _ rfl
      rintro _ rfl
      rintro _ rfl
      rintro _ rfl
      rintro _ rfl
      rintro _ rfl
      rintro _ rfl
      rintro _ rfl
      rintro _ rfl
      rintro _ rfl
      intro v25 h25
      intro v26 h26
      refine fin_nil ?_
      simp only [Act.put, List.set_cons_zero, List.set_cons_succ, List.setIfInBounds_toArray]
      go_wp2_with (at_builtin; refine wpList_accg rfl (.tmp 15) (.tmp 26) rfl _ _ rfl (unhide HA) (unhide HLN) r ((kp_drew wr).trans hkW1) v26 rfl h26 (unhide HRB) ?_; intro ao5 m5 c5 w5 A5)
      go_roundw
      case rel => exact ⟨k + 1, m5, c5, ao5, by omega, rfl, by have := unhide HJ; go_num, by have e := unhide HE; rw [← e] at A5; exact A5⟩
      case measure => simp [intOf]; have := unhide HJN; omega
    · obtain rfl : k = M := by omega
      have hlt2 : ¬ (j : Int) < (N : Int) := by have := unhide HNM; omega
      have HT : Hid ((abvP ls).take k = abvP ls) := List.take_of_length_le (by rw [abvP_len]; have := unhide HN; have := unhide HNM; omega)
      clear hj
      go_wp2_with fail
      go_ret
      exact ⟨ao, m, cc, rfl, by have := unhide HA; rw [unhide HT] at this; exact this⟩
end Go.Proofs.YtdioaohejoflcaaDoor

/-
  The contracts of package sign's pathOf, ledUp and Public.
-/
namespace Go.Proofs.YtdioaohejoflcaaDoor
open Go.RowKit
open Go.Proofs

/-- rows of slices that are gathered, while blocks in S may change: the slices lie in blocks of which F holds. -/
def AccS (S : List Nat) (F : Nat → Prop) (w : World) (ls : List (List Int)) (v : Value) (wr : World) : Prop := ∃ l, RowS wr w.heap.size v l ∧ l.map (·.2) = ls ∧ Kp S w wr ∧ ∀ x ∈ l, ∀ q, x.1.ownBlock = some q → F q
theorem AccS.mid {S : List Nat} {F : Nat → Prop} {w wr w2 : World} {ls : List (List Int)} {v : Value} (h : AccS S F w ls v wr) (k : Kp [] wr w2) : AccS S F w ls v w2 := by
  obtain ⟨l, h1, h2, h3, h4⟩ := h
  exact ⟨l, h1.kept k, h2, h3.trans (k.mono (by simp)), h4⟩
theorem AccS.kp {S : List Nat} {F : Nat → Prop} {w wr : World} {ls : List (List Int)} {v : Value} (h : AccS S F w ls v wr) : Kp S w wr := by obtain ⟨_, _, _, h3, _⟩ := h; exact h3
theorem AccS.lt {S : List Nat} {F : Nat → Prop} {w wr : World} {ls : List (List Int)} {v : Value} (h : AccS S F w ls v wr) : ∀ q, v.ownBlock = some q → q < wr.heap.size := by obtain ⟨_, h1, _, _⟩ := h; exact fun q hq => h1.1.lt hq
theorem AccS.lists {S : List Nat} {F : Nat → Prop} {w wr : World} {ls : List (List Int)} {v : Value} (h : AccS S F w ls v wr) (hl : ls.length ≤ 1000) : ∃ l, Lists wr v l ∧ l.map (·.2) = ls ∧ (∀ q, v.ownBlock = some q → w.heap.size ≤ q) ∧ ∀ x ∈ l, ∀ q, x.1.ownBlock = some q → F q := by
  obtain ⟨l, h1, h2, _, h4⟩ := h
  exact ⟨l, h1.lists (by rw [← List.length_map (f := (·.2)), h2]; exact hl), h2, h1.1.own, h4⟩
theorem Sl.lt {w : World} {v : Value} {bs : List Int} (h : Sl w v bs) (hb : bs ≠ []) : ∀ q, v.ownBlock = some q → q < w.heap.size := by
  obtain ⟨ao, c, rfl, h1, h2, h3, h4⟩ := h
  intro q hq
  cases ao with
  | none => cases hq
  | some a =>
    have hp : 0 < bs.length := List.length_pos_iff.2 hb
    have hc := h4 a rfl 0 (.int .u8 bs[0]) (by simp [List.getElem?_eq_getElem hp])
    have := World.block_lt_of_cell? _ _ hc
    rw [add_block] at this
    have e : a.block = q := by simpa [Value.ownBlock] using hq
    omega
theorem RowS.snoc {w3 w4 : World} {base : Nat} {v v' vx : Value} {bs : List Int} {l : List (Value × List Int)} (h : RowS w3 base v l) (hx : Sl w3 vx bs) (hB : Bs bs) (ha : ∀ q, vx.ownBlock = some q → v.ownBlock = some q → bs = [])
    (r : RowV w4 base v' (l.map (·.1) ++ [vx])) (s : RStep w3 v w4 v') : RowS w4 base v' (l ++ [(vx, bs)]) := by
  have one : ∀ (x : Value) (cs : List Int), Sl w3 x cs → (∀ q, x.ownBlock = some q → v.ownBlock = some q → cs = []) → Sl w4 x cs ∧ ∀ q, x.ownBlock = some q → v'.ownBlock = some q → cs = [] := by
    intro x cs hS hA
    refine ⟨hS.apart s.1 (fun q hq hm => hA q hq (by simpa using hm)), fun q hq hv => ?_⟩
    by_cases hc : cs = []
    · exact hc
    · rcases s.2 q hv with h1 | h1
      · exact hA q hq h1
      · have := hS.lt hc q hq; omega
  refine ⟨by rw [List.map_append]; exact r, fun y hy => ?_⟩
  rcases List.mem_append.1 hy with hy | hy
  · obtain ⟨h1, h2, h3⟩ := h.2 y hy
    exact ⟨(one y.1 y.2 h1 h3).1, h2, (one y.1 y.2 h1 h3).2⟩
  · obtain rfl : y = (vx, bs) := by simpa using hy
    exact ⟨(one vx bs hx ha).1, hB, (one vx bs hx ha).2⟩
/-- one more slice, that lies wherever it lies, behind them. -/
theorem wpList_accs {S : List Nat} {F : Nat → Prop} {w wr : World} {ops : Array Oper} {rest : List Oper} {o : Oper} {a : Act} {Q : Exit → Act → World → Prop} (hgd : o.guard = none) (s x : Operand)
    (ho : o.op = .call { callee := .builtin .append, args := #[s, x], argTypes := #[31, 31] }) (v : Value) (ls : List (List Int)) (hs : a.eval s = v) (hA : AccS S F w ls v wr) (hl : ls.length ≤ 1000000)
    (vx : Value) (bs : List Int) (hS : Sl wr vx bs) (hB : Bs bs) (hap : ∀ q, vx.ownBlock = some q → v.ownBlock = some q → bs = []) (hF : ∀ q, vx.ownBlock = some q → F q) (hx : a.eval x = .slice (some ⟨wr.heap.size, 0, none⟩) 1 1)
    (h : ∀ ao m c w', AccS S F w (ls ++ [bs]) (.slice ao m c) w' → RStep wr v w' (.slice ao m c) → wpList Tryd.prog ops Q rest (a.put o.dst (.slice ao m c)) w') : wpList Tryd.prog ops Q (o :: rest) a (wr.alloc (.cells #[vx] 24)) := by
  obtain ⟨l, hP, hl2, hK, hF4⟩ := hA
  have Ka := (Kp.refl [] wr).alloc (.cells #[vx] 24)
  have hP2 := hP.kept Ka
  obtain ⟨ax, cx, hvx, _⟩ := id hS
  refine wpList_append_rowv hgd s x ho w.heap.size v (l.map (·.1)) hs hP2.1 ⟨wr.heap.size, 0, none⟩ 1 [vx] hx ?_ ?_ ?_ ?_ ?_
  · intro j u hu
    exact World.news_of_block (heap_alloc_new wr _) j u (by simpa using hu)
  · simp [hvx, Value.oneCell']
  · have : l.length = ls.length := by rw [← hl2]; simp
    simp; omega
  · have := hK.size
    simp; omega
  · intro ao m c w' r st
    refine h ao m c w' ⟨l ++ [(vx, bs)], hP2.snoc (hS.kept Ka (by simp)) hB hap r st, by simp [hl2], ?_, fun y hy => ?_⟩ (st.after Ka)
    · exact (hK.trans (Ka.mono (by simp))).then st.1 (fun i hi => .inr (hP.1.own i (by simpa using hi)))
    · rcases List.mem_append.1 hy with hy | hy
      · exact hF4 y hy
      · obtain rfl : y = (vx, bs) := by simpa using hy
        exact hF
theorem Lists.off {w w' : World} {v : Value} {l : List (Value × List Int)} {S : List Nat} (h : Lists w v l) (k : Kp S w w') (hv : ∀ q, v.ownBlock = some q → q ∉ S) (hy : ∀ y ∈ l, ∀ q, y.1.ownBlock = some q → q ∉ S) : Lists w' v l := by
  obtain ⟨ao, c, rfl, h1, h2⟩ := h
  refine ⟨ao, c, rfl, h1, fun i hi => ?_⟩
  obtain ⟨b, off, e, h3, h4, h5⟩ := h2 i hi
  subst e
  exact ⟨b, off, rfl, k.cell h3 (hv b rfl), h4.kept k (hy _ (List.getElem_mem hi)), h5⟩
/-- a level of nodes that lies apart from pv. -/
def LvA (F : Nat → Prop) (w : World) (v : Value) (ls : List (List Int)) (pv : Value) : Prop :=
  ∃ l, Lists w v l ∧ l.map (·.2) = ls ∧ (∀ q, v.ownBlock = some q → q < w.heap.size ∧ pv.ownBlock ≠ some q) ∧ ∀ y ∈ l, ∀ q, y.1.ownBlock = some q → (q < w.heap.size ∧ pv.ownBlock ≠ some q) ∧ F q
theorem LvA.of_acc {F : Nat → Prop} {w1 w2 : World} {v pv : Value} {ls : List (List Int)} (h : Acc w1 ls v w2) (hl : ls.length ≤ 1000) (hp : ∀ q, pv.ownBlock = some q → q < w1.heap.size) (hF : ∀ q, w1.heap.size ≤ q → F q) : LvA F w2 v ls pv := by
  obtain ⟨l, h1, h2, h3⟩ := h
  refine ⟨l, h1.lists (by rw [← List.length_map (f := (·.2)), h2]; exact hl), h2, fun q hq => ⟨h1.1.lt hq, fun e => ?_⟩, fun y hy q hq => ⟨⟨(h1.2 y hy).1.lt hq, fun e => ?_⟩, hF q ((h1.2 y hy).1.own q hq)⟩⟩
  · have := h1.1.own q hq; have := hp q e; omega
  · have := (h1.2 y hy).1.own q hq; have := hp q e; omega
theorem LvA.step {F : Nat → Prop} {w w' : World} {v pv pv' : Value} {ls : List (List Int)} (h : LvA F w v ls pv) (s : RStep w pv w' pv') : LvA F w' v ls pv' := by
  obtain ⟨l, h1, h2, h3, h4⟩ := h
  have key : ∀ q, q < w.heap.size ∧ pv.ownBlock ≠ some q → q < w'.heap.size ∧ pv'.ownBlock ≠ some q := fun q ⟨a, b⟩ => ⟨Nat.lt_of_lt_of_le a s.1.size, fun e => by
    rcases s.2 q e with h5 | h5
    · exact b h5
    · omega⟩
  exact ⟨l, h1.off s.1 (fun q hq hm => (h3 q hq).2 (by simpa using hm)) (fun y hy q hq hm => (h4 y hy q hq).1.2 (by simpa using hm)), h2, fun q hq => key q (h3 q hq), fun y hy q hq => ⟨key q (h4 y hy q hq).1, (h4 y hy q hq).2⟩⟩
theorem LvA.at {F : Nat → Prop} {w : World} {ao : Option Addr} {n c : Nat} {pv : Value} {ls : List (List Int)} (h : LvA F w (.slice ao n c) ls pv) (i : Nat) (hi : i < ls.length) :
    ∃ b off ax nx cx, ao = some ⟨b, off, none⟩ ∧ w.cell? ⟨b, off + i, none⟩ = some (.slice ax nx cx) ∧ Sl w (.slice ax nx cx) (ls.getD i []) ∧ Bs (ls.getD i []) ∧ n = ls.length ∧ ∀ q, (Value.slice ax nx cx).ownBlock = some q → pv.ownBlock ≠ some q ∧ F q := by
  obtain ⟨l, hL, he, _, h4⟩ := h
  subst he
  obtain ⟨ao', c', e, _, h2⟩ := hL
  have hi2 : i < l.length := by simpa using hi
  obtain ⟨b, off, e2, h3, h5, h6⟩ := h2 i hi2
  injection e with e0 e1
  subst e0
  have hg : (l.map (·.2)).getD i [] = l[i].2 := by simp [List.getD, hi2]
  rw [hg]
  have h7 := h4 l[i] (List.getElem_mem hi2)
  obtain ⟨ax, cx, e4, _⟩ := id h5
  rw [e4] at h3 h5 h7
  exact ⟨b, off, ax, _, cx, e2, h3, h5, h6, by simp [e1], fun q hq => ⟨(h7 q hq).1.2, (h7 q hq).2⟩⟩

theorem sib_xor (x : Nat) (h : x < 16) : bits .xor .i64 (x : Int) 1 = (sibP x : Int) := by
  have h2 : ∀ m ∈ List.range 16, bits .xor .i64 (m : Int) 1 = (sibP m : Int) := by decide +kernel
  exact h2 x (by simpa using h)
theorem lv_even (bs : List Int) (k : Nat) (h : k < 4) : (lvP bs k).length % 2 = 0 := by
  rw [lvP_len]
  rcases (by omega : k = 0 ∨ k = 1 ∨ k = 2 ∨ k = 3) with rfl | rfl | rfl | rfl <;> decide
theorem lv_le (bs : List Int) (k : Nat) : (lvP bs k).length ≤ 16 := by rw [lvP_len]; exact Nat.div_le_self _ _

set_option maxRecDepth 100000 in
set_option maxHeartbeats 2000000 in
theorem pathOf_any (vb : Value) (bs : List Int) (i : Nat) (w : World) (hS : Sl w vb bs) (hB : Bs bs) (hl : bs.length ≤ 1000) (hi : i < 16) (hG : Gl w) :
    Calls Tryd.prog 35 #[vb, .int .i64 i] w fun e w' => ∃ ao m c, e = .returned (.slice ao m c) ∧ AccS [] (w.heap.size ≤ ·) w (pthP bs i 4) (.slice ao m c) w' := by
  obtain ⟨i0, hi0, hz0, hz1, hz2⟩ := info_parts Tryd.infoSl
  have HS := hide hS
  have HG := hide hG
  have HB := hide hB
  obtain ⟨ab, cb, hvb, _⟩ := hS
  obtain ⟨nb, hnb⟩ : ∃ n, n = bs.length := ⟨_, rfl⟩
  rw [← hnb] at hvb
  subst hvb
  clear hG hB hnb
  go_enter Tryd.func35, Tryd.ntmps35
  go_wp2_with (at_make; refine wpList_make_own _ rfl _ _ 31 rfl w.heap.size 24 i0 (.slice none 0 0) 1 Tryd.underlying31 hi0 hz0 hz1 .i64 .i64 _ 4 rfl rfl (by omega) (by rw [hz2]; omega) (by unfold maxLen; omega) (Nat.le_refl _) ?_; intro w1 o1 g1; have K1 : Kp [] w w1 := (Kp.refl [] w).grown g1 (by intro k hk; cases hk); have R1 : RowV w1 w.heap.size _ [] := o1)
  have A1 : Hid (AccS [] (w.heap.size ≤ ·) w (pthP bs i 0) (.slice (some ⟨w.heap.size, 0, none⟩) 0 4) w1) := ⟨[], ⟨R1, fun x hx => by cases hx⟩, rfl, K1, fun x hx => by cases hx⟩
  have HC := hide (leaves_any (.slice ab nb cb) bs w1 ((unhide HS).kept K1 (by simp)) (unhide HB) hl ((unhide HG).kept K1 (by simp)))
  clear o1 g1 R1 K1
  refine (unhide HC).mono ?_
  rintro ee w2 ⟨a2, m2, c2, rfl, A2⟩
  have V2 : Hid (LvA (w.heap.size ≤ ·) w2 (.slice a2 m2 c2) (lvP bs 0) (.slice (some ⟨w.heap.size, 0, none⟩) 0 4)) := LvA.of_acc A2 (by have := lv_le bs 0; omega) (unhide A1).lt (fun q hq => Nat.le_trans (unhide A1).kp.size hq)
  have A3 := hide ((unhide A1).mid A2.kp)
  clear HC A1 A2
  go_wp2_with fail
  go_loopw [5, 6, 1, 10] (fun v lv x j wr => ∃ (k m cc m2 c2 : Nat) (ao a2 : Option Addr), k ≤ 4 ∧ v = .slice ao m cc ∧ lv = .slice a2 m2 c2 ∧ x = .int .i64 ((i / 2 ^ k : Nat) : Int) ∧ j = .int .i64 k ∧ AccS [] (w.heap.size ≤ ·) w (pthP bs i k) v wr ∧ LvA (w.heap.size ≤ ·) wr lv (lvP bs k) v) (fun _ _ _ j _ => 4 - (intOf j).toNat)
  case atStart => exact ⟨0, 0, 4, m2, c2, some ⟨w.heap.size, 0, none⟩, a2, by omega, rfl, rfl, by simp, rfl, unhide A3, unhide V2⟩
  case round =>
    clear A3 V2
    obtain ⟨k, m, cc, m3, c3, ao, a3, hk, rfl, rfl, rfl, rfl, Ar, Vr⟩ := hrel
    have HA := hide Ar
    have HV := hide Vr
    clear Ar Vr
    by_cases hlt : k < 4
    · have hlt2 : (k : Int) < 4 := by omega
      have hx16 : i / 2 ^ k < 16 := Nat.lt_of_le_of_lt (Nat.div_le_self _ _) hi
      have hsl : sibP (i / 2 ^ k) < (lvP bs k).length := by rw [lvP_len]; exact sib_lv hi hlt
      have hxor := sib_xor _ hx16
      have hE := pthP_succ bs i k
      obtain ⟨b, off, ax, nx, cx, rfl, hc, hSx, hBx, hm3, hap⟩ := (unhide HV).at _ hsl
      have hev := lv_even bs k hlt
      have hle := lv_le bs k
      have hq : Int.tdiv ((i / 2 ^ k : Nat) : Int) 2 = ((i / 2 ^ (k + 1) : Nat) : Int) := by rw [Int.tdiv_eq_ediv_of_nonneg (Int.natCast_nonneg _), Nat.pow_succ, ← Nat.div_div_eq_div_mul]; omega
      have hq2 : ((i / 2 ^ k : Nat) : Int) / 2 = ((i / 2 ^ (k + 1) : Nat) : Int) := by rw [Nat.pow_succ, ← Nat.div_div_eq_div_mul]; omega
      rw [← hm3] at hsl
      obtain ⟨x, hx⟩ : ∃ x, x = i / 2 ^ k := ⟨_, rfl⟩
      obtain ⟨y, hy⟩ : ∃ y, y = i / 2 ^ (k + 1) := ⟨_, rfl⟩
      obtain ⟨s, hs⟩ : ∃ s, s = sibP x := ⟨_, rfl⟩
      rw [← hx] at hxor hsl hE hc hSx hBx hq hq2 hx16 ⊢
      rw [← hs] at hxor hsl hE hc hSx hBx
      rw [← hy] at hq hq2
      have hsi : (s : Int) < (m3 : Int) := by omega
      obtain ⟨X, hX⟩ : ∃ X, X = (lvP bs k).getD s [] := ⟨_, rfl⟩
      rw [← hX] at hE hSx hBx
      have HE := hide hE
      have HSx := hide hSx
      have HBx := hide hBx
      have HAP := hide hap
      have HY := hide hy
      have HEV := hide hev
      have HLE := hide hle
      have HM3 := hide hm3
      have HLN : Hid ((pthP bs i k).length ≤ 1000000) := by rw [pthP_len]; show k ≤ 1000000; omega
      clear hE hSx hBx hap hy hx hs hX hev hle hm3
      go_wp2_with (at_builtin; refine wpList_accs rfl (.tmp 12) (.tmp 18) rfl _ _ rfl (unhide HA) (unhide HLN) _ X (unhide HSx) (unhide HBx) (fun q h1 h2 => absurd h2 (unhide HAP q h1).1) (fun q h1 => (unhide HAP q h1).2) rfl ?_; intro ao5 m5 c5 w5 A5 S5)
      have HA5 := hide A5
      have HV5 := hide ((unhide HV).step S5)
      clear A5 S5 HV HA HSx HAP
      have HAB : Hid (∃ l, Lists w5 (.slice (some ⟨b, off, none⟩) m3 c3) l ∧ l.map (·.2) = lvP bs k) := by obtain ⟨l, h1, h2, _⟩ := unhide HV5; exact ⟨l, h1, h2⟩
      obtain ⟨ll, hll, hle⟩ := unhide HAB
      have HC := hide (above_any (.slice (some ⟨b, off, none⟩) m3 c3) ll (lvP bs k) hle (fun x hx => by rw [(lvP_all bs k x hx).1]; omega) w5 hll (by have := unhide HLE; omega) (unhide HEV) ((unhide HG).kept (unhide HA5).kp (by simp)))
      clear hll hle HAB
      refine (unhide HC).mono ?_
      rintro ee w6 ⟨a6, m6, c6, rfl, A6⟩
      have HV6 : Hid (LvA (w.heap.size ≤ ·) w6 (.slice a6 m6 c6) (lvP bs (k + 1)) (.slice ao5 m5 c5)) := LvA.of_acc A6 (by have := lv_le bs (k + 1); omega) (unhide HA5).lt (fun q hq => Nat.le_trans (unhide HA5).kp.size hq)
      have HA6 := hide ((unhide HA5).mid A6.kp)
      clear HC A6 HA5 HV5
      go_wp2_with fail
      go_roundw
      case rel => exact ⟨k + 1, m5, c5, m6, c6, ao5, a6, by omega, rfl, rfl, by rw [← unhide HY], by go_num, by have e := unhide HE; rw [← e] at HA6; exact unhide HA6, unhide HV6⟩
      case measure => simp [intOf]; omega
    · obtain rfl : k = 4 := by omega
      clear HV
      go_wp2_with fail
      go_ret
      exact ⟨ao, m, cc, rfl, unhide HA⟩

theorem led_take (x : List Int) (i : Nat) (ls : List (List Int)) (k : Nat) (h : k < ls.length) : ledP x i (ls.take (k + 1)) = if i / 2 ^ k % 2 = 0 then nodeP (ledP x i (ls.take k)) (ls.getD k []) else nodeP (ls.getD k []) (ledP x i (ls.take k)) := by
  rw [List.take_succ_eq_append_getElem h, ledP_snoc, List.length_take, Nat.min_eq_left (Nat.le_of_lt h)]
  simp [List.getD, h]
theorem ledP_ok (x : List Int) (i : Nat) (ls : List (List Int)) (h0 : x.length ≤ 1000) (h1 : Bs x) : (ledP x i ls).length ≤ 1000 ∧ Bs (ledP x i ls) := by
  induction ls generalizing x i with
  | nil => exact ⟨h0, h1⟩
  | cons o l ih =>
    rw [ledP]
    split
    · exact ih _ _ (by rw [nodeP_len]; omega) (nodeP_bs _ _)
    · exact ih _ _ (by rw [nodeP_len]; omega) (nodeP_bs _ _)

set_option maxRecDepth 100000 in
set_option maxHeartbeats 2000000 in
theorem ledUp_any (vx : Value) (x : List Int) (i : Nat) (vl : Value) (l : List (Value × List Int)) (ls : List (List Int)) (r : List Int) (hr : r = ledP x i ls) (hls : l.map (·.2) = ls) (w : World) (hX : Sl w vx x) (hXB : Bs x) (hxl : x.length ≤ 1000) (hi : i < 16) (hL : Lists w vl l) (hn : ls.length ≤ 1000) (hm : ∀ y ∈ ls, y.length ≤ 1000) (hG : Gl w) :
    Calls Tryd.prog 40 #[vx, .int .i64 i, vl] w fun e w' => ∃ ao m c, e = .returned (.slice ao m c) ∧ Sl w' (.slice ao m c) r ∧ Kp [] w w' := by
  have HX := hide hX
  have HG := hide hG
  have HL := hide hL
  have HLS := hide hls
  have HM := hide hm
  have HR := hide hr
  have HOK := hide (fun k => ledP_ok x i (ls.take k) hxl hXB)
  have hlen : l.length = ls.length := by rw [← hls]; simp
  obtain ⟨al, cl, hvl, _⟩ := hL
  rw [hlen] at hvl
  subst hvl
  obtain ⟨ax, cx, hvx, _⟩ := hX
  obtain ⟨nx, hnx⟩ : ∃ n, n = x.length := ⟨_, rfl⟩
  rw [← hnx] at hvx
  subst hvx
  obtain ⟨N, hN⟩ : ∃ N, N = ls.length := ⟨_, rfl⟩
  have HN := hide hN
  rw [← hN] at hn HL ⊢
  have hni : (N : Int) ≤ 1000 := by omega
  clear hG hls hm hr hlen hnx hN hXB hxl
  go_enter Tryd.func40, Tryd.ntmps40
  go_wp2_with fail
  go_loopw [7, 1, 13] (fun v x' j wr => ∃ (k m cc : Nat) (ao : Option Addr), k ≤ N ∧ v = .slice ao m cc ∧ x' = .int .i64 ((i / 2 ^ k : Nat) : Int) ∧ j = .int .i64 k ∧ Sl wr v (ledP x i (ls.take k)) ∧ Kp [] w wr) (fun _ _ j _ => N - (intOf j).toNat)
  case atStart => exact ⟨0, nx, cx, ax, by omega, rfl, by simp, rfl, unhide HX, Kp.refl _ _⟩
  case round =>
    obtain ⟨k, m, cc, ao, hk, rfl, rfl, rfl, Sr, Kr⟩ := hrel
    have HSr := hide Sr
    have HKr := hide Kr
    clear Sr Kr
    by_cases hlt : k < N
    · have hlt2 : (k : Int) < (N : Int) := by omega
      have hkl : k < ls.length := by have := unhide HN; omega
      have hx16 : i / 2 ^ k < 16 := Nat.lt_of_le_of_lt (Nat.div_le_self _ _) hi
      have hE := led_take x i ls k hkl
      obtain ⟨b, off, ay, ny, cy, rfl, hc, hSy, hBy⟩ := lists_at (unhide HL) (unhide HLS) k hkl
      have hyl : (ls.getD k []).length ≤ 1000 := unhide HM _ (getD_mem hkl)
      have hok := unhide HOK k
      have hq : Int.tdiv ((i / 2 ^ k : Nat) : Int) 2 = ((i / 2 ^ (k + 1) : Nat) : Int) := by rw [Int.tdiv_eq_ediv_of_nonneg (Int.natCast_nonneg _), Nat.pow_succ, ← Nat.div_div_eq_div_mul]; omega
      have hq2 : ((i / 2 ^ k : Nat) : Int) / 2 = ((i / 2 ^ (k + 1) : Nat) : Int) := by rw [Nat.pow_succ, ← Nat.div_div_eq_div_mul]; omega
      obtain ⟨t, ht⟩ : ∃ t, t = i / 2 ^ k % 2 := ⟨_, rfl⟩
      have ht2 : t < 2 := by omega
      have hmod : Int.tmod ((i / 2 ^ k : Nat) : Int) 2 = (t : Int) := by rw [Int.tmod_eq_emod_of_nonneg (Int.natCast_nonneg _)]; omega
      have hmod2 : ((i / 2 ^ k : Nat) : Int) % 2 = (t : Int) := by omega
      obtain ⟨z, hz⟩ : ∃ z, z = i / 2 ^ k := ⟨_, rfl⟩
      obtain ⟨z2, hz2⟩ : ∃ z, z = i / 2 ^ (k + 1) := ⟨_, rfl⟩
      rw [← ht] at hE
      rw [← hz] at hq hq2 hmod hmod2 hx16 ⊢
      rw [← hz2] at hq hq2
      obtain ⟨Y, hY⟩ : ∃ Y, Y = ls.getD k [] := ⟨_, rfl⟩
      obtain ⟨X, hX⟩ : ∃ X, X = ledP x i (ls.take k) := ⟨_, rfl⟩
      rw [← hY] at hE hSy hBy hyl
      rw [← hX] at hE hok HSr
      have hcw := (unhide HKr).cell hc (by simp)
      have HSy := hide (hSy.kept (unhide HKr) (by simp))
      have HBy := hide hBy
      have HOk := hide hok
      have HZ2 := hide hz2
      have HE := hide hE
      clear hE hSy hBy hok hz2 hY hX ht hz hc
      rcases (by omega : t = 0 ∨ t = 1) with rfl | rfl
      · rw [if_pos rfl] at HE
        obtain ⟨q, hq'⟩ : ∃ q, q = nodeP X Y := ⟨_, rfl⟩
        rw [← hq'] at HE
        have HC := hide (node_any _ _ X Y q hq' wr (unhide HSr) (unhide HOk).2 (unhide HSy) (unhide HBy) (unhide HOk).1 hyl ((unhide HG).kept (unhide HKr) (by simp)))
        clear hq'
        go_wp2_with fail
        refine (unhide HC).mono ?_
        rintro ee w2 ⟨a2, m2, c2, rfl, R2, K2⟩
        have HS2 := hide R2.sl
        have HK2 := hide ((unhide HKr).trans K2)
        clear R2 K2 HC HSr HSy HKr
        go_wp2_with fail
        go_roundw
        case rel => exact ⟨k + 1, m2, c2, a2, by omega, rfl, by rw [← unhide HZ2], by go_num, by rw [unhide HE]; exact unhide HS2, unhide HK2⟩
        case measure => simp [intOf]; omega
      · rw [if_neg (by omega)] at HE
        obtain ⟨q, hq'⟩ : ∃ q, q = nodeP Y X := ⟨_, rfl⟩
        rw [← hq'] at HE
        have HC := hide (node_any _ _ Y X q hq' wr (unhide HSy) (unhide HBy) (unhide HSr) (unhide HOk).2 hyl (unhide HOk).1 ((unhide HG).kept (unhide HKr) (by simp)))
        clear hq'
        go_wp2_with fail
        refine (unhide HC).mono ?_
        rintro ee w2 ⟨a2, m2, c2, rfl, R2, K2⟩
        have HS2 := hide R2.sl
        have HK2 := hide ((unhide HKr).trans K2)
        clear R2 K2 HC HSr HSy HKr
        go_wp2_with fail
        go_roundw
        case rel => exact ⟨k + 1, m2, c2, a2, by omega, rfl, by rw [← unhide HZ2], by go_num, by rw [unhide HE]; exact unhide HS2, unhide HK2⟩
        case measure => simp [intOf]; omega
    · obtain rfl : k = N := by omega
      have hT : ls.take k = ls := List.take_of_length_le (by have := unhide HN; omega)
      rw [hT] at HSr
      have hlt2 : ¬ (k : Int) < (k : Int) := by omega
      clear hT HOK HL
      go_wp2_with fail
      go_ret
      exact ⟨ao, m, cc, rfl, by rw [unhide HR]; exact unhide HSr, unhide HKr⟩

set_option maxRecDepth 100000 in
set_option maxHeartbeats 2000000 in
theorem spublic_any (vb : Value) (bs : List Int) (r : List Int) (hr : r = topP bs) (w : World) (hS : Sl w vb bs) (hB : Bs bs) (hl : bs.length = 32) (hG : Gl w) :
    Calls Tryd.prog 11 #[vb] w fun e w' => ∃ ao m c, e = .returned (.slice ao m c) ∧ Sl w' (.slice ao m c) r ∧ Kp [] w w' := by
  have HS := hide hS
  have HG := hide hG
  have HR := hide hr
  have HI := hide (isSeed_any vb bs w hS hl)
  have HC := hide (leaves_any vb bs w hS hB (by omega) hG)
  obtain ⟨ab, cb, hvb, _⟩ := hS
  obtain ⟨nb, hnb⟩ : ∃ n, n = bs.length := ⟨_, rfl⟩
  rw [← hnb] at hvb
  subst hvb
  clear hG hB hnb hr
  go_enter Tryd.func11, Tryd.ntmps11
  go_wp2_with fail
  refine (unhide HI).mono ?_
  rintro ee w1 ⟨rfl, hw⟩
  subst w1
  go_wp2_with fail
  refine (unhide HC).mono ?_
  rintro ee w2 ⟨a2, m2, c2, rfl, A2⟩
  have HK2 := hide A2.kp
  have HL2 : Hid (∃ l, Lists w2 (.slice a2 m2 c2) l ∧ l.map (·.2) = lvP bs 0) := A2.lists (by rw [lvsP_len]; omega)
  clear HC HI A2
  go_wp2_with fail
  go_loopw [3, 9] (fun lv j wr => ∃ (k m2 c2 : Nat) (a2 : Option Addr), k ≤ 4 ∧ lv = .slice a2 m2 c2 ∧ j = .int .i64 k ∧ (∃ l, Lists wr lv l ∧ l.map (·.2) = lvP bs k) ∧ Kp [] w wr) (fun _ j _ => 4 - (intOf j).toNat)
  case atStart => exact ⟨0, m2, c2, a2, by omega, rfl, rfl, unhide HL2, unhide HK2⟩
  case round =>
    clear HL2 HK2
    obtain ⟨k, m3, c3, a3, hk, rfl, rfl, ⟨l, hL, hle⟩, Kr⟩ := hrel
    have HKr := hide Kr
    by_cases hlt : k < 4
    · have hlt2 : (k : Int) < 4 := by omega
      have HC := hide (above_any (.slice a3 m3 c3) l (lvP bs k) hle (fun x hx => by rw [(lvP_all bs k x hx).1]; omega) wr hL (by have := lv_le bs k; omega) (lv_even bs k hlt) ((unhide HG).kept Kr (by simp)))
      clear hL hle Kr
      go_wp2_with fail
      refine (unhide HC).mono ?_
      rintro ee w6 ⟨a6, m6, c6, rfl, A6⟩
      have HL6 : Hid (∃ l, Lists w6 (.slice a6 m6 c6) l ∧ l.map (·.2) = lvP bs (k + 1)) := A6.lists (by rw [abvP_len]; have := lv_le bs k; omega)
      have HK6 := hide ((unhide HKr).trans A6.kp)
      clear A6 HC
      go_wp2_with fail
      go_roundw
      case rel => exact ⟨k + 1, m6, c6, a6, by omega, rfl, by go_num, unhide HL6, unhide HK6⟩
      case measure => simp [intOf]; omega
    · obtain rfl : k = 4 := by omega
      obtain ⟨b, off, ay, ny, cy, rfl, hc, hSy, hBy⟩ := lists_at hL hle 0 (by rw [lvP_len]; decide)
      have hm3 : m3 = 1 := by
        obtain ⟨ao', c', e, _⟩ := hL
        injection e with _ e2
        rw [e2, ← List.length_map (f := (·.2)), hle, lvP_len]
      subst hm3
      have HSy : Hid (Sl wr (.slice ay ny cy) r) := by rw [unhide HR]; exact hSy
      rw [Nat.add_zero] at hc
      clear hSy hBy hL hle Kr HR
      go_wp2_with fail
      go_ret
      exact ⟨ay, ny, cy, rfl, unhide HSy, unhide HKr⟩
end Go.Proofs.YtdioaohejoflcaaDoor

/-
  The contracts of package wire's writer over this seat's program: New, number, Num: what a call writes behind what there was, and what it leaves alone.
-/
namespace Go.Proofs.YtdioaohejoflcaaDoor
open Go.RowKit
/-- A writer: its one cell at block p holds the slice v, which owns the bytes bs. -/
def Wr (w : World) (p : Nat) (v : Value) (bs : List Int) : Prop :=
  w.heap[p]? = some (.cells #[v] 99 (0, 0)) ∧ w.ownsRow (p + 1) 5 1 v bs.length (bs.map (Value.int .u8))

/-- One step of a writer: besides its cell and its row nothing old was changed; its row is the old one, or new. -/
def Step (p : Nat) (w : World) (v : Value) (w' : World) (v' : Value) : Prop :=
  Kp (p :: v.ownBlock.toList) w w' ∧ ∀ k, v'.ownBlock = some k → v.ownBlock = some k ∨ w.heap.size ≤ k

theorem Step.refl (p : Nat) (w : World) (v : Value) : Step p w v w v := ⟨Kp.refl _ _, fun _ h => .inl h⟩
theorem Step.trans {p : Nat} {a b c : World} {u v x : Value} (h : Step p a u b v) (k : Step p b v c x) : Step p a u c x := by
  refine ⟨h.1.then k.1 (fun i hi => ?_), fun i hi => ?_⟩
  · simp only [List.mem_cons, Option.mem_toList] at hi ⊢
    rcases hi with rfl | hi
    · exact .inl (.inl rfl)
    · rcases h.2 i hi with h1 | h1
      · exact .inl (.inr h1)
      · exact .inr h1
  · rcases k.2 i hi with h1 | h1
    · exact h.2 i h1
    · exact .inr (Nat.le_trans h.1.size h1)

theorem Wr.cell {w : World} {p : Nat} {v : Value} {bs : List Int} (h : Wr w p v bs) : w.cell? ⟨p, 0, none⟩ = some v := cell_of_one h.1
theorem Wr.free {w : World} {p : Nat} {v : Value} {bs : List Int} (h : Wr w p v bs) : w.frozen? ⟨p, 0, none⟩ = false := free_of_one h.1
theorem Wr.lt {w : World} {p : Nat} {v : Value} {bs : List Int} (h : Wr w p v bs) : p < w.heap.size := lt_of_block h.1
theorem Wr.ne {w : World} {p : Nat} {v : Value} {bs : List Int} (h : Wr w p v bs) : v.ownBlock ≠ some p := fun e => by have := h.2.lt p e; omega
theorem Wr.kept {w w' : World} {p : Nat} {v : Value} {bs : List Int} {S : List Nat} (h : Wr w p v bs) (k : Kp S w w') (hp : p ∉ S) (hv : ∀ i, v.ownBlock = some i → i ∉ S) : Wr w' p v bs :=
  ⟨k.heap h.1 hp, k.owns h.2 hv⟩

/-- behind an append and the store of its slice. -/
theorem wr_step {wr w0 w1 : World} {p g cap : Nat} {v : Value} {bs new : List Int} (h : Wr wr p v bs) (h0 : Kp [] wr w0)
    (hown : w1.ownsRow (p + 1) 5 1 (.slice (some ⟨g, 0, none⟩) (bs.length + new.length) cap) (bs.length + new.length) (bs.map (Value.int .u8) ++ new.map (Value.int .u8)))
    (hgrow : w0.grownBy w1 v.ownBlock) (hat : v.ownBlock = some g ∨ wr.heap.size ≤ g) :
    Wr (w1.setCell ⟨p, 0, none⟩ (.slice (some ⟨g, 0, none⟩) (bs.length + new.length) cap)) p (.slice (some ⟨g, 0, none⟩) (bs.length + new.length) cap) (bs ++ new) ∧
      Step p wr v (w1.setCell ⟨p, 0, none⟩ (.slice (some ⟨g, 0, none⟩) (bs.length + new.length) cap)) (.slice (some ⟨g, 0, none⟩) (bs.length + new.length) cap) := by
  have h1 : w1.heap[p]? = some (.cells #[v] 99 (0, 0)) := by
    rw [hgrow.block p (Nat.lt_of_lt_of_le h.lt h0.size) (Ne.symm h.ne)]
    exact h0.heap h.1 (by simp)
  refine ⟨⟨one_setCell h1, ?_⟩, ?_, ?_⟩
  · have := ownsRow_setCell_below hown (a := ⟨p, 0, none⟩) (by simp) (.slice (some ⟨g, 0, none⟩) (bs.length + new.length) cap)
    simpa using this
  · have k1 : Kp (p :: v.ownBlock.toList) wr w0 := h0.mono (by simp)
    have k2 := k1.grown hgrow (fun k hk => .inl (by simp [hk]))
    exact k2.setCell (p := ⟨p, 0, none⟩) (.inl (by simp)) _
  · intro k hk
    simp only [Value.ownBlock, Option.some.injEq] at hk
    subst hk
    exact hat

/-- Byte number j of n, counted from the lowest. -/
def byteAt (n : Int) (j : Nat) : Int := n / 256 ^ j % 256
/-- The lowest size bytes of n from the highest on, down to byte k. -/
def be (n : Int) (size k : Nat) : List Int := (List.range (size - k)).map fun t => byteAt n (size - 1 - t)
theorem be_none (n : Int) (size : Nat) : be n size size = [] := by simp [be]
theorem be_step (n : Int) (size j : Nat) (h : j + 1 ≤ size) : be n size j = be n size (j + 1) ++ [byteAt n j] := by
  unfold be
  rw [show size - j = (size - (j + 1)) + 1 from by omega, List.range_succ, List.map_append]
  simp only [List.map_cons, List.map_nil]
  rw [show size - 1 - (size - (j + 1)) = j from by omega]
theorem be_length (n : Int) (size k : Nat) : (be n size k).length = size - k := by simp [be]
theorem byte_wrap (n : Int) (j : Nat) : IntKind.u8.wrap (n / 2 ^ (8 * (j : Int)).toNat) = byteAt n j := by
  have e : (8 * (j : Int)).toNat = 8 * j := by omega
  rw [e, Int.pow_mul]
  simp [IntKind.wrap, IntKind.signed, IntKind.bits, byteAt]

theorem new_any (w : World) : Calls Tryd.prog 46 #[] w fun e w' => e = .returned (.pointer (some ⟨w.heap.size, 0, none⟩)) ∧ w' = w.alloc (.cells #[.slice none 0 0] 99) := by
  go_enter Tryd.func46, Tryd.ntmps46
  go_wp2
  go_ret
  exact ⟨rfl, rfl⟩
theorem wr_new (w : World) : Wr (w.alloc (.cells #[.slice none 0 0] 99)) w.heap.size (.slice none 0 0) [] :=
  ⟨heap_alloc_new w _, World.ownsRow_nil _ _ _ _⟩
/-- New, told without its world. -/
theorem new_abs (w : World) : Calls Tryd.prog 46 #[] w fun e w' => ∃ p, e = .returned (.pointer (some ⟨p, 0, none⟩)) ∧ Wr w' p (.slice none 0 0) [] ∧ w.heap.size ≤ p ∧ Kp [] w w' :=
  (new_any w).mono fun _ _ ⟨h1, h2⟩ => ⟨w.heap.size, h1, h2 ▸ wr_new w, Nat.le_refl _, h2 ▸ (Kp.refl [] w).alloc _⟩

set_option maxHeartbeats 400000 in
theorem number_any (p : Nat) (n : Int) (size : Nat) (v : Value) (bs : List Int) (w : World) (hw : Wr w p v bs) (hs : size ≤ 4) (hb : bs.length ≤ 100000000000000) :
    Calls Tryd.prog 74 #[.pointer (some ⟨p, 0, none⟩), .int .u32 n, .int .i64 size] w fun e w' => e = .returned (.tuple #[]) ∧ ∃ v', Wr w' p v' (bs ++ be n size 0) ∧ Step p w v w' v' := by
  obtain ⟨i0, hi0, hz0, hz1, hz2⟩ := info_parts Tryd.info5
  go_enter Tryd.func74, Tryd.ntmps74
  go_wp2
  go_loopw [6] (fun i wr => ∃ k : Nat, k ≤ size ∧ i = .int .i64 ((k : Int) - 1) ∧ ∃ v', Wr wr p v' (bs ++ be n size k) ∧ Step p w v wr v') (fun i _ => (intOf i + 1).toNat)
  case atStart => exact ⟨size, Nat.le_refl _, rfl, v, by rw [be_none, List.append_nil]; exact hw, Step.refl _ _ _⟩
  case round =>
    obtain ⟨k, hk, rfl, v', hw', hst⟩ := hrel
    by_cases hk0 : 0 < k
    · obtain ⟨j, rfl⟩ : ∃ j : Nat, k = j + 1 := ⟨k - 1, by omega⟩
      obtain ⟨cs, hcs⟩ : ∃ cs, cs = bs ++ be n size (j + 1) := ⟨_, rfl⟩
      rw [← hcs] at hw'
      have hlen : cs.length ≤ 100000000000004 := by rw [hcs, List.length_append, be_length]; omega
      have HC : Hid (cs = bs ++ be n size (j + 1)) := hcs
      clear hcs
      have hc := hw'.cell
      have hf := hw'.free
      have hown := hw'.2
      have hlt := hw'.lt
      have hfa : ∀ o, (wr.alloc o).frozen? ⟨p, 0, none⟩ = false := fun o => by rw [World.frozen?_alloc_old _ _ _ (by simp; omega)]; exact hf
      have hca : ∀ o, (wr.alloc o).cell? ⟨p, 0, none⟩ = some v' := fun o => (World.cell?_alloc_lt _ _ _ (by exact hlt)).trans hc
      have hne := hw'.ne
      have hwrp : IntKind.i64.wrap (8 * (j : Int)) = 8 * (j : Int) := by simp [IntKind.wrap, IntKind.signed, IntKind.bits]; omega
      have hj0 : (0 : Int) ≤ 8 * (j : Int) := by omega
      have hj1 : 8 * (j : Int) ≤ 32 := by omega
      have hbw := byte_wrap n j
      go_wp2
      go_region_law ((refine step_append_lies _ (by rfl) _ _ _ (by rfl) (p + 1) 5 i0 _ 1 1 Tryd.underlying24 hi0 hz0 hz1 hz2 rfl (by omega) v' _ _ (by rfl) ((hown.alloc _).drew) ⟨wr.heap.size, 0, none⟩ 1 1 [.int .u8 (byteAt n j)] (by rfl) (by rfl) (World.news_of_block (cs := #[.int .u8 (byteAt n j)]) (t := 5) (fr := (0, 0)) (heap_alloc_new wr _)) (by simp [Value.oneCell']) (by omega) (by unfold maxLen; omega) (by omega) (by simp; omega) (wr.heap.size + 1) (by simp) ?_; intro gg cap w1 hown1 hgrow hat hltg; have hc1 : w1.cell? ⟨p, 0, none⟩ = some v' := (by rw [hgrow.cell_far _ (by simp; omega) (Ne.symm hne)]; simpa using hca _); have hf1 : w1.frozen? ⟨p, 0, none⟩ = false := (by rw [hgrow.frozen_far _ (by simp; omega) (Ne.symm hne)]; simpa using hfa _)))
      all_goals
        have R := wr_step (new := [byteAt n j]) hw' (((Kp.refl [] wr).alloc _).drew) hown1 hgrow (hat.imp id (fun e => by omega))
        clear hown1 hgrow hat hltg hown hc hf hfa hca hne hc1 hf1
        go_wp2
        go_roundw
        case rel => exact ⟨j, by omega, by go_num, _, by rw [be_step n size j hk, ← List.append_assoc, ← HC.out]; exact R.1, hst.trans R.2⟩
        case measure => simp [intOf]
    · obtain rfl : k = 0 := by omega
      go_wp2
      go_end0
      exact ⟨rfl, v', hw', hst⟩

theorem num_any (p : Nat) (n : Int) (v : Value) (bs : List Int) (w : World) (hw : Wr w p v bs) (hb : bs.length ≤ 100000000000000) :
    Calls Tryd.prog 47 #[.pointer (some ⟨p, 0, none⟩), .int .u32 n] w fun e w' => e = .returned (.tuple #[]) ∧ ∃ v', Wr w' p v' (bs ++ be n 4 0) ∧ Step p w v w' v' := by
  go_enter Tryd.func47, Tryd.ntmps47
  go_wp2_with (go_at_call 74; refine (number_any p n 4 v bs _ hw (by omega) hb).mono ?_; rintro e w' ⟨rfl, v', h1, h2⟩)
  go_end0
  exact ⟨rfl, v', h1, h2⟩
end Go.Proofs.YtdioaohejoflcaaDoor

/-
  The contracts of package wire's copies and of its reader over this seat's program: copyOf, Done, Read, take, spoil, number, Num, End, Bad.
-/
namespace Go.Proofs.YtdioaohejoflcaaDoor
open Go.RowKit

/-- A reader: its two cells at block q hold the slice v, which reads as the bytes bs, and whether it is bad. -/
def Rd (w : World) (q : Nat) (v : Value) (bad : Bool) (bs : List Int) : Prop :=
  w.heap[q]? = some (.cells #[v, .bool bad] 97 (0, 0)) ∧ Sl w v bs ∧ v.ownBlock ≠ some q

theorem cell_of_two {w : World} {b : Nat} {v u : Value} {t : TypeId} (h : w.heap[b]? = some (.cells #[v, u] t (0, 0))) : w.cell? ⟨b, 0, none⟩ = some v ∧ w.cell? ⟨b, 1, none⟩ = some u :=
  ⟨by rw [cell_of_row w b 0 _ t _ h]; rfl, by rw [cell_of_row w b 1 _ t _ h]; rfl⟩
theorem free_of_two {w : World} {b : Nat} {c : Array Value} {t : TypeId} (h : w.heap[b]? = some (.cells c t (0, 0))) (j : Nat) : w.frozen? ⟨b, j, none⟩ = false := by
  simp [World.frozen?, h]
theorem two_setCell0 {w : World} {b : Nat} {v u x : Value} {t : TypeId} (h : w.heap[b]? = some (.cells #[v, u] t (0, 0))) : (w.setCell ⟨b, 0, none⟩ x).heap[b]? = some (.cells #[x, u] t (0, 0)) := by
  have hlt := lt_of_block h
  have h' : w.heap[b] = .cells #[v, u] t (0, 0) := by simpa [Array.getElem?_eq_getElem hlt] using h
  show (w.heap.modify b _)[b]? = _
  rw [Array.getElem?_eq_getElem (by simpa using hlt), Array.getElem_modify_self, h']
  rfl
theorem two_setCell1 {w : World} {b : Nat} {v u x : Value} {t : TypeId} (h : w.heap[b]? = some (.cells #[v, u] t (0, 0))) : (w.setCell ⟨b, 1, none⟩ x).heap[b]? = some (.cells #[v, x] t (0, 0)) := by
  have hlt := lt_of_block h
  have h' : w.heap[b] = .cells #[v, u] t (0, 0) := by simpa [Array.getElem?_eq_getElem hlt] using h
  show (w.heap.modify b _)[b]? = _
  rw [Array.getElem?_eq_getElem (by simpa using hlt), Array.getElem_modify_self, h']
  rfl
theorem Rd.kept {w w' : World} {q : Nat} {v : Value} {bad : Bool} {bs : List Int} {S : List Nat} (h : Rd w q v bad bs) (k : Kp S w w') (hp : q ∉ S) (hv : ∀ i, v.ownBlock = some i → i ∉ S) : Rd w' q v bad bs :=
  ⟨k.heap h.1 hp, h.2.1.kept k hv, h.2.2⟩

theorem copy_any (v : Value) (bs : List Int) (w : World) (h : Sl w v bs) (hb : bs.length ≤ 140737488355328) :
    Calls Tryd.prog 71 #[v] w fun e w' => ∃ ao c, e = .returned (.slice ao bs.length c) ∧ w'.ownsRow w.heap.size 5 1 (.slice ao bs.length c) bs.length (bs.map (Value.int .u8)) ∧ Kp [] w w' := by
  obtain ⟨i0, hi0, hz0, hz1, hz2⟩ := info_parts Tryd.info5
  obtain ⟨ao, c, rfl, h1, h2, h3, h4⟩ := h
  cases ao with
  | none =>
    have : bs = [] := List.eq_nil_of_length_eq_zero (by have := h3 rfl; omega)
    subst this
    obtain rfl := h3 rfl
    go_enter Tryd.func71, Tryd.ntmps71
    go_wp2_with (at_builtin; refine wpList_append_own_none rfl _ _ 24 rfl w.heap.size 5 i0 1 Tryd.underlying24 hi0 (.slice none 0 0) 0 [] rfl (World.ownsRow_nil _ _ _ _) rfl ?_)
    go_ret
    exact ⟨_, _, rfl, World.ownsRow_nil _ _ _ _, Kp.refl _ _⟩
  | some a =>
    go_enter Tryd.func71, Tryd.ntmps71
    go_wp2_with (at_builtin; refine wpList_append_own _ rfl _ _ 24 rfl w.heap.size 5 i0 (.int .u8 0) 1 1 Tryd.underlying24 hi0 hz0 hz1 hz2 rfl (by decide) (.slice none 0 0) 0 [] rfl (World.ownsRow_nil _ _ _ _) a bs.length c (bs.map (Value.int .u8)) rfl (by simp) (h4 a rfl) (by simp [Value.oneCell']) (by omega) (by omega) (Nat.le_refl _) ?_; intro v' w1 hown hgrow _)
    go_ret
    have hown' : w1.ownsRow w.heap.size 5 1 v' bs.length (bs.map (Value.int .u8)) := by simpa using hown
    obtain ⟨ao, c', rfl⟩ := owns_shape hown'
    exact ⟨ao, c', rfl, hown', (Kp.refl [] w).grown hgrow (fun k hk => by cases hk)⟩

theorem done_any (p : Nat) (v : Value) (bs : List Int) (w : World) (h : Wr w p v bs) (hb : bs.length ≤ 140737488355328) :
    Calls Tryd.prog 49 #[.pointer (some ⟨p, 0, none⟩)] w fun e w' => ∃ ao c, e = .returned (.slice ao bs.length c) ∧ w'.ownsRow w.heap.size 5 1 (.slice ao bs.length c) bs.length (bs.map (Value.int .u8)) ∧ Kp [] w w' := by
  have hc := h.cell
  have hs := Sl.of_owns h.2
  go_enter Tryd.func49, Tryd.ntmps49
  go_wp2_with (go_at_call 71; refine (copy_any v bs _ hs hb).mono ?_; rintro e w' ⟨ao, c, rfl, h1, h2⟩)
  go_ret
  exact ⟨ao, c, rfl, h1, h2⟩

theorem read_any (v : Value) (bs : List Int) (w : World) (h : Sl w v bs) (hb : bs.length ≤ 140737488355328) :
    Calls Tryd.prog 43 #[v] w fun e w' => ∃ q v', e = .returned (.pointer (some ⟨q, 0, none⟩)) ∧ w.heap.size ≤ q ∧ Rd w' q v' false bs ∧ (∀ k, v'.ownBlock = some k → w.heap.size ≤ k ∧ k < w'.heap.size) ∧ Kp [] w w' := by
  go_enter Tryd.func43, Tryd.ntmps43
  go_wp2_with (go_at_call 71; refine (copy_any v bs _ h hb).mono ?_; rintro e w' ⟨ao, c, rfl, h1, h2⟩)
  go_ret
  have hlt := h1.lt
  exact ⟨w'.heap.size, _, rfl, h2.size, ⟨heap_alloc_new w' _, (Sl.of_owns h1).kept ((Kp.refl [] w').alloc _) (by simp), fun e => by have := (hlt _ e).2; omega⟩, fun k hk => ⟨(hlt k hk).1, by have := (hlt k hk).2; simp; omega⟩, h2.alloc _⟩

theorem spoil_any (q : Nat) (v : Value) (bad : Bool) (bs : List Int) (w : World) (h : Rd w q v bad bs) :
    Calls Tryd.prog 85 #[.pointer (some ⟨q, 0, none⟩)] w fun e w' => e = .returned (.tuple #[]) ∧ Rd w' q (.slice none 0 0) true [] ∧ Kp [q] w w' := by
  have hc := cell_of_two h.1
  have hc0 := hc.1
  have hc1 := hc.2
  have hf := free_of_two h.1
  have hf0 := hf 0
  have hf1 := hf 1
  clear hc hf
  go_enter Tryd.func85, Tryd.ntmps85
  go_wp2
  go_end0
  refine ⟨rfl, ⟨two_setCell1 (two_setCell0 h.1), Sl.nil _, by simp [Value.ownBlock]⟩, ((Kp.refl [q] w).setCell (p := ⟨q, 0, none⟩) (.inl (by simp)) _).setCell (p := ⟨q, 1, none⟩) (.inl (by simp)) _⟩

/-- what take leaves of a reader where there is enough: the piece r, and the rest. -/
def Took (w : World) (q n : Nat) (v : Value) (bad : Bool) (bs : List Int) (r : Value) (w' : World) : Prop :=
  Sl w' r (bs.take n) ∧ (∃ v2, Rd w' q v2 bad (bs.drop n) ∧ ∀ k, v2.ownBlock = some k → v.ownBlock = some k) ∧ Kp [q] w w' ∧ ∀ k, r.ownBlock = some k → v.ownBlock = some k

theorem take_end {w : World} {q : Nat} {ao : Option Addr} {c : Nat} {bad : Bool} {bs : List Int} {n : Nat} (h : Rd w q (.slice ao bs.length c) bad bs) (hn : n ≤ bs.length) (x : Option Addr) (l cc : Nat)
    (hx : x = if c = n then ao else ao.map (·.add n)) (hl : l = bs.length - n) (hcc : cc = c - n) : Took w q n (.slice ao bs.length c) bad bs (.slice ao n c) (w.setCell ⟨q, 0, none⟩ (.slice x l cc)) := by
  subst hl hcc hx
  have hk : Kp [q] w (w.setCell ⟨q, 0, none⟩ (.slice (if c = n then ao else ao.map (·.add n)) (bs.length - n) (c - n))) := (Kp.refl [q] w).setCell (p := ⟨q, 0, none⟩) (.inl (by simp)) _
  have ho : ∀ k, (Value.slice (if c = n then ao else ao.map (·.add n)) (bs.length - n) (c - n)).ownBlock = some k → (Value.slice ao bs.length c).ownBlock = some k := by
    intro k
    split
    · cases ao with
      | none => exact id
      | some a => exact id
    · cases ao with
      | none => exact id
      | some a => simp [Value.ownBlock, add_block]
  have hq : ∀ k, (Value.slice ao bs.length c).ownBlock = some k → k ∉ [q] := fun k hk1 hm => by
    simp only [List.mem_singleton] at hm; subst hm; exact h.2.2 hk1
  have hao : ∀ k, (Value.slice ao n c).ownBlock = some k → (Value.slice ao bs.length c).ownBlock = some k := fun k hk1 => by
    cases ao with
    | none => cases hk1
    | some a => exact hk1
  exact ⟨(h.2.1.take n hn).kept hk (fun k hk => hq k (hao k hk)), ⟨_, ⟨two_setCell0 h.1, (h.2.1.drop n hn).kept hk (fun k hk => hq k (ho k hk)), fun e => hq q (ho q e) (by simp)⟩, ho⟩, hk, hao⟩

set_option maxHeartbeats 400000 in
theorem take_ok (q : Nat) (v : Value) (bad : Bool) (bs : List Int) (n : Nat) (w : World) (hR : Rd w q v bad bs) (hn : n ≤ bs.length) :
    Calls Tryd.prog 81 #[.pointer (some ⟨q, 0, none⟩), .int .i64 n] w fun e w' => ∃ ao c, e = .returned (.slice ao n c) ∧ Took w q n v bad bs (.slice ao n c) w' := by
  obtain ⟨ao, c, rfl, h1, h2, h3, h4⟩ := hR.2.1
  have hc0 := (cell_of_two hR.1).1
  have hf0 := free_of_two hR.1 0
  have hlt : ¬ (n : Int) < 0 := by omega
  have hle : (n : Int) ≤ (bs.length : Int) := by omega
  have hle2 : (n : Int) ≤ (c : Int) := by omega
  unfold maxLen at h2
  clear h4 h3
  by_cases hcn : c = n
  · subst hcn
    go_enter Tryd.func81, Tryd.ntmps81
    go_wp2
    go_ret
    refine ⟨_, _, rfl, take_end hR hn _ _ _ ?_ ?_ ?_⟩
    · simp
    · omega
    · omega
  · go_enter Tryd.func81, Tryd.ntmps81
    go_wp2
    go_ret
    refine ⟨_, _, rfl, take_end hR hn _ _ _ ?_ ?_ ?_⟩
    · simp [hcn]
    · rfl
    · rfl

theorem take_bad (q : Nat) (v : Value) (bad : Bool) (bs : List Int) (n : Int) (w : World) (h : Rd w q v bad bs) (hn : n < 0 ∨ (bs.length : Int) < n) :
    Calls Tryd.prog 81 #[.pointer (some ⟨q, 0, none⟩), .int .i64 n] w fun e w' => e = .returned (.slice none 0 0) ∧ Rd w' q (.slice none 0 0) true [] ∧ Kp [q] w w' := by
  have h0 := h
  obtain ⟨ao, c, rfl, h1, h2, h3, h4⟩ := h.2.1
  have hc0 := (cell_of_two h.1).1
  clear h4 h3 h
  rcases Int.lt_or_le n 0 with hlt | hlt
  · go_enter Tryd.func81, Tryd.ntmps81
    go_wp2_with (go_at_call 85; refine (spoil_any q _ bad bs _ h0).mono ?_; rintro e w' ⟨rfl, k1, k2⟩)
    go_ret
    exact ⟨rfl, k1, k2⟩
  · have hgt : (bs.length : Int) < n := by omega
    go_enter Tryd.func81, Tryd.ntmps81
    go_wp2_with (go_at_call 85; refine (spoil_any q _ bad bs _ h0).mono ?_; rintro e w' ⟨rfl, k1, k2⟩)
    go_ret
    exact ⟨rfl, k1, k2⟩

theorem Sl.at2 {w : World} {ao : Option Addr} {n c : Nat} {bs : List Int} (h : Sl w (.slice ao n c) bs) (h0 : 0 < n) :
    ∃ b off, ao = some ⟨b, off, none⟩ ∧ n = bs.length ∧ ∀ k (hk : k < bs.length), w.cell? ⟨b, off + k, none⟩ = some (.int .u8 bs[k]) := by
  obtain ⟨ao', c', he, h1, h2, h3, h4⟩ := h
  injection he with e1 e2 e3
  subst e1 e2 e3
  cases ao with
  | none => have := h3 rfl; omega
  | some a =>
    obtain ⟨b, off, spot⟩ := a
    have hc := h4 _ rfl 0 (.int .u8 bs[0]) (by simp [List.getElem?_eq_getElem h0])
    have hspot : spot = none := by simpa [Addr.add] using World.cell?_spot hc
    subst hspot
    refine ⟨b, off, rfl, rfl, fun k hk => ?_⟩
    have := h4 _ rfl k (.int .u8 bs[k]) (by simp [List.getElem?_eq_getElem hk])
    rwa [Addr.add_lit] at this

theorem Bs.append {bs cs : List Int} (h : Bs bs) (k : Bs cs) : Bs (bs ++ cs) := fun b hb => by
  rcases List.mem_append.1 hb with h1 | h1
  · exact h b h1
  · exact k b h1

set_option maxHeartbeats 400000 in
theorem rnumber_ok (q : Nat) (v : Value) (bad : Bool) (bs : List Int) (n : Nat) (w : World) (hR : Rd w q v bad bs) (hn : n ≤ bs.length) (h0 : 0 < n) (h4 : n ≤ 4) (hB : Bs bs) :
    Calls Tryd.prog 72 #[.pointer (some ⟨q, 0, none⟩), .int .i64 n] w fun e w' => e = .returned (.int .u32 (val (bs.take n))) ∧ ∃ r, Took w q n v bad bs r w' := by
  go_enter Tryd.func72, Tryd.ntmps72
  go_wp2_with (go_at_call 81; refine (take_ok q v bad bs n _ hR hn).mono ?_; rintro e w1 ⟨ao, c, rfl, hT⟩)
  obtain ⟨b, off, rfl, hl, hcell⟩ := hT.1.at2 h0
  obtain ⟨cs, hcs⟩ : ∃ cs, cs = bs.take n := ⟨_, rfl⟩
  have hBc : Bs cs := hcs ▸ hB.take n
  rw [← hcs] at hl hcell
  have HC : Hid (cs = bs.take n) := hcs
  have HT : Hid (∃ r, Took w q n v bad bs r w1) := ⟨_, hT⟩
  clear hcs hT hB hR hn
  subst hl
  go_loop [5, 12] (fun x i => ∃ k : Nat, k ≤ cs.length ∧ i = .int .i64 k ∧ x = .int .u32 (val (cs.take k))) (fun _ i => cs.length - (intOf i).toNat)
  case atStart => exact ⟨0, Nat.zero_le _, rfl, rfl⟩
  case round =>
    obtain ⟨k, hk, rfl, rfl⟩ := hrel
    by_cases hlt : k < cs.length
    · have hc := hcell k hlt
      have hb1 := hBc cs[k] (List.getElem_mem hlt)
      have hvb := val_bd (cs.take k) (hBc.take k)
      have hlen : (cs.take k).length ≤ 3 := by simp; omega
      have hv1 := val_small (cs.take k) (hBc.take k) hlen
      obtain ⟨x, hx⟩ : ∃ x, x = val (cs.take k) := ⟨_, rfl⟩
      obtain ⟨y, hy⟩ : ∃ y, y = cs[k] := ⟨_, rfl⟩
      have HX : Hid (val (cs.take (k + 1)) = x * 256 + y) := by rw [hx, hy]; exact val_take_succ cs k hlt
      rw [← hx] at hvb hv1
      rw [← hx]
      rw [← hy] at hc hb1
      obtain ⟨hb1, hb2⟩ := hb1
      obtain ⟨hx0, _⟩ := hvb
      have hor := bits_or_byte x y hx0 hv1 hb1 hb2
      clear hx hy hlen hBc hcell
      go_wp2
      go_round
      case rel => exact ⟨k + 1, by omega, by go_num, by rw [HX.out]⟩
      case measure => simp [intOf]; omega
    · obtain rfl : k = cs.length := by omega
      go_wp2
      go_ret
      exact ⟨congrArg (fun l => Ending.returned (.int .u32 (val l))) HC.out, HT.out⟩

set_option maxHeartbeats 400000 in
theorem rnumber_bad (q : Nat) (v : Value) (bad : Bool) (bs : List Int) (n : Nat) (w : World) (hR : Rd w q v bad bs) (hn : bs.length < n) :
    Calls Tryd.prog 72 #[.pointer (some ⟨q, 0, none⟩), .int .i64 n] w fun e w' => e = .returned (.int .u32 0) ∧ Rd w' q (.slice none 0 0) true [] ∧ Kp [q] w w' := by
  go_enter Tryd.func72, Tryd.ntmps72
  go_wp2_with (go_at_call 81; refine (take_bad q v bad bs n _ hR (by omega)).mono ?_; rintro e w1 ⟨rfl, h1, h2⟩)
  refine wp_loop_rounds 1 ?_
  rw [rounds_succ]
  go_wp2
  go_ret
  exact ⟨rfl, h1, h2⟩

theorem rnum_ok (q : Nat) (v : Value) (bad : Bool) (bs : List Int) (w : World) (hR : Rd w q v bad bs) (hn : 4 ≤ bs.length) (hB : Bs bs) :
    Calls Tryd.prog 44 #[.pointer (some ⟨q, 0, none⟩)] w fun e w' => e = .returned (.int .u32 (val (bs.take 4))) ∧ ∃ r, Took w q 4 v bad bs r w' := by
  go_enter Tryd.func44, Tryd.ntmps44
  go_wp2_with (go_at_call 72; refine (rnumber_ok q v bad bs 4 _ hR hn (by omega) (by omega) hB).mono ?_; rintro e w1 ⟨rfl, h1⟩)
  go_ret
  exact ⟨rfl, h1⟩
theorem rnum_bad (q : Nat) (v : Value) (bad : Bool) (bs : List Int) (w : World) (hR : Rd w q v bad bs) (hn : bs.length < 4) :
    Calls Tryd.prog 44 #[.pointer (some ⟨q, 0, none⟩)] w fun e w' => e = .returned (.int .u32 0) ∧ Rd w' q (.slice none 0 0) true [] ∧ Kp [q] w w' := by
  go_enter Tryd.func44, Tryd.ntmps44
  go_wp2_with (go_at_call 72; refine (rnumber_bad q v bad bs 4 _ hR hn).mono ?_; rintro e w1 ⟨rfl, h1, h2⟩)
  go_ret
  exact ⟨rfl, h1, h2⟩
end Go.Proofs.YtdioaohejoflcaaDoor

/-
  The contracts of package wire's Raw and Bytes of a writer over this seat's program.
-/
namespace Go.Proofs.YtdioaohejoflcaaDoor
open Go.RowKit

theorem wr_step' {wr w0 w1 : World} {p : Nat} {v v' : Value} {bs new : List Int} (h : Wr wr p v bs) (h0 : Kp [] wr w0)
    (hown : w1.ownsRow (p + 1) 5 1 v' (bs.length + new.length) (bs.map (Value.int .u8) ++ new.map (Value.int .u8)))
    (hgrow : w0.grownBy w1 v.ownBlock) (hat : ∀ k, v'.ownBlock = some k → v.ownBlock = some k ∨ wr.heap.size ≤ k) :
    Wr (w1.setCell ⟨p, 0, none⟩ v') p v' (bs ++ new) ∧ Step p wr v (w1.setCell ⟨p, 0, none⟩ v') v' := by
  have h1 : w1.heap[p]? = some (.cells #[v] 99 (0, 0)) := by
    rw [hgrow.block p (Nat.lt_of_lt_of_le h.lt h0.size) (Ne.symm h.ne)]
    exact h0.heap h.1 (by simp)
  refine ⟨⟨one_setCell h1, ?_⟩, ?_, hat⟩
  · have := ownsRow_setCell_below hown (a := ⟨p, 0, none⟩) (by simp) v'
    simpa using this
  · have k1 : Kp (p :: v.ownBlock.toList) wr w0 := h0.mono (by simp)
    have k2 := k1.grown hgrow (fun k hk => .inl (by simp [hk]))
    exact k2.setCell (p := ⟨p, 0, none⟩) (.inl (by simp)) _
theorem wr_same {w : World} {p : Nat} {v : Value} {bs : List Int} (h : Wr w p v bs) : Wr (w.setCell ⟨p, 0, none⟩ v) p v bs ∧ Step p w v (w.setCell ⟨p, 0, none⟩ v) v :=
  ⟨⟨one_setCell h.1, ownsRow_setCell_below h.2 (a := ⟨p, 0, none⟩) (by simp) v⟩, (Kp.refl _ w).setCell (p := ⟨p, 0, none⟩) (.inl (by simp)) _, fun _ hk => .inl hk⟩

set_option maxHeartbeats 400000 in
theorem raw_any (p : Nat) (v : Value) (bs : List Int) (vb : Value) (cs : List Int) (w : World) (hw : Wr w p v bs) (hs : Sl w vb cs) (hb : bs.length + cs.length ≤ 140737488355328) :
    Calls Tryd.prog 75 #[.pointer (some ⟨p, 0, none⟩), vb] w fun e w' => e = .returned (.tuple #[]) ∧ ∃ v', Wr w' p v' (bs ++ cs) ∧ Step p w v w' v' := by
  obtain ⟨i0, hi0, hz0, hz1, hz2⟩ := info_parts Tryd.info5
  obtain ⟨ao, c, rfl, h1, h2, h3, h4⟩ := hs
  obtain ⟨av, cv, rfl⟩ := owns_shape hw.2
  have hc := hw.cell
  have hf := hw.free
  have hown := hw.2
  have hne := hw.ne
  have hlt := hw.lt
  cases ao with
  | none =>
    have : cs = [] := List.eq_nil_of_length_eq_zero (by have := h3 rfl; omega)
    subst this
    obtain rfl := h3 rfl
    have R := wr_same hw
    go_enter Tryd.func75, Tryd.ntmps75
    go_wp2_with (at_builtin; refine wpList_append_own_none rfl _ _ 24 rfl (p + 1) 5 i0 1 Tryd.underlying24 hi0 _ _ _ rfl hown rfl ?_)
    go_end0
    exact ⟨rfl, _, by simpa using R.1, R.2⟩
  | some a =>
    go_enter Tryd.func75, Tryd.ntmps75
    go_wp2_with (at_builtin; (refine wpList_append_own_at _ rfl _ _ 24 rfl (p + 1) 5 i0 (.int .u8 0) 1 1 Tryd.underlying24 hi0 hz0 hz1 hz2 rfl (by decide) (.slice av bs.length cv) bs.length (bs.map (Value.int .u8)) rfl hown a cs.length c (cs.map (Value.int .u8)) rfl (by simp) (h4 a rfl) (by simp [Value.oneCell']) (by unfold maxLen; omega) (by omega) (by omega) ?_; intro v' w1 hown1 hgrow _ hat; obtain ⟨av', cv', rfl⟩ := owns_shape hown1; have hc1 : w1.cell? ⟨p, 0, none⟩ = some (.slice av bs.length cv) := (by rw [hgrow.cell_far _ hlt (Ne.symm hne)]; exact hc); have hf1 : w1.frozen? ⟨p, 0, none⟩ = false := (by rw [hgrow.frozen_far _ hlt (Ne.symm hne)]; exact hf)))
    have R := wr_step' (new := cs) hw (Kp.refl [] w) hown1 hgrow (fun k hk => by rcases hat with e | e; exact .inl (e ▸ hk); exact .inr (by rw [e] at hk; cases hk; exact Nat.le_refl _))
    go_end0
    exact ⟨rfl, _, R.1, R.2⟩

end Go.Proofs.YtdioaohejoflcaaDoor

/-
  Plain facts on the four bytes of a number: they make the number, and they stand in order as the numbers do.
-/
namespace Go.Proofs.YtdioaohejoflcaaDoor
open Go.RowKit

theorem be_four (n : Int) (h0 : 0 ≤ n) (h1 : n ≤ 4294967295) : be n 4 0 = [n / 16777216, n / 65536 % 256, n / 256 % 256, n % 256] := by
  simp [be, byteAt, List.range_succ]
  omega
theorem be_bs (n : Int) (size k : Nat) : Bs (be n size k) := by
  intro b hb
  simp only [be, List.mem_map] at hb
  obtain ⟨t, _, rfl⟩ := hb
  unfold byteAt
  omega
theorem val_be4 (n : Int) (h0 : 0 ≤ n) (h1 : n ≤ 4294967295) : val (be n 4 0) = n := by
  rw [be_four n h0 h1]
  simp [val]
  omega
theorem toNat_of (x : Int) (h0 : 0 ≤ x) (h1 : x ≤ 255) : ((UInt8.ofNat x.toNat).toNat : Int) = x := by
  simp; omega
theorem str_toList (bs : List Int) : (strOfNums bs).toList = bs.map fun n => UInt8.ofNat n.toNat := by
  rw [ByteArray.toList_eq]; rfl
theorem of_lt (x y : Int) (hx : 0 ≤ x ∧ x ≤ 255) (hy : 0 ≤ y ∧ y ≤ 255) : (UInt8.ofNat x.toNat < UInt8.ofNat y.toNat) ↔ x < y := by
  rw [UInt8.lt_iff_toNat_lt]
  have := toNat_of x hx.1 hx.2
  have := toNat_of y hy.1 hy.2
  omega
theorem of_eq (x y : Int) (hx : 0 ≤ x ∧ x ≤ 255) (hy : 0 ≤ y ∧ y ≤ 255) : (UInt8.ofNat x.toNat = UInt8.ofNat y.toNat) ↔ x = y := by
  constructor
  · intro h
    have := toNat_of x hx.1 hx.2
    have := toNat_of y hy.1 hy.2
    rw [h] at *
    omega
  · intro h; rw [h]
theorem less_four (a b : Int) (a0 : 0 ≤ a) (a1 : a ≤ 4294967295) (b0 : 0 ≤ b) (b1 : b ≤ 4294967295) :
    Op.bytesLess (strOfNums (be a 4 0)).toList (strOfNums (be b 4 0)).toList = decide (a < b) := by
  rw [str_toList, str_toList, be_four a a0 a1, be_four b b0 b1, Bool.eq_iff_iff]
  simp only [List.map_cons, List.map_nil, Op.bytesLess, Bool.or_eq_true, Bool.and_eq_true, decide_eq_true_eq, beq_iff_eq]
  rw [of_lt _ _ (by omega) (by omega), of_lt _ _ (by omega) (by omega), of_lt _ _ (by omega) (by omega), of_lt _ _ (by omega) (by omega), of_eq _ _ (by omega) (by omega), of_eq _ _ (by omega) (by omega), of_eq _ _ (by omega) (by omega), of_eq _ _ (by omega) (by omega)]
  simp only [Bool.false_eq_true, and_false, or_false]
  omega
theorem str_inj (bs cs : List Int) (hb : Bs bs) (hc : Bs cs) (h : (strOfNums bs).toList = (strOfNums cs).toList) : bs = cs := by
  rw [str_toList, str_toList] at h
  induction bs generalizing cs with
  | nil => cases cs with
    | nil => rfl
    | cons c cs => simp at h
  | cons b bs ih => cases cs with
    | nil => simp at h
    | cons c cs =>
      simp only [List.map_cons, List.cons.injEq] at h
      rw [(of_eq b c (hb b (by simp)) (hc c (by simp))).1 h.1, ih cs (fun x hx => hb x (by simp [hx])) (fun x hx => hc x (by simp [hx])) h.2]
theorem str_beq (bs cs : List Int) (hb : Bs bs) (hc : Bs cs) : ((strOfNums bs).toList == (strOfNums cs).toList) = decide (bs = cs) := by
  rw [Bool.eq_iff_iff]
  simp only [beq_iff_eq, decide_eq_true_eq]
  exact ⟨str_inj bs cs hb hc, fun h => by rw [h]⟩
theorem eq_four (a b : Int) (a0 : 0 ≤ a) (a1 : a ≤ 4294967295) (b0 : 0 ≤ b) (b1 : b ≤ 4294967295) :
    ((strOfNums (be a 4 0)).toList == (strOfNums (be b 4 0)).toList) = (a == b) := by
  rw [str_beq _ _ (be_bs _ _ _) (be_bs _ _ _), Bool.eq_iff_iff]
  simp only [decide_eq_true_eq, beq_iff_eq]
  refine ⟨fun h => ?_, fun h => by rw [h]⟩
  rw [← val_be4 a a0 a1, h, val_be4 b b0 b1]
/-- a string of bytes turned into a slice. -/
theorem Sl.ofString {w : World} {bs : List Int} (hB : Bs bs) (e : TypeId) (cap : Nat) (hcap : bs.length ≤ cap) (hm : cap ≤ maxLen) (fr : Nat × Nat) :
    Sl (w.alloc (.cells (bytesRow (strOfNums bs) cap) e fr)) (.slice (some ⟨w.heap.size, 0, none⟩) (strOfNums bs).size cap) bs := by
  refine ⟨some ⟨w.heap.size, 0, none⟩, cap, by rw [strOfNums_size], hcap, hm, (fun h => by cases h), fun a ha j u hu => ?_⟩
  cases ha
  rw [Addr.add_lit, Nat.zero_add, World.cell?_alloc_mark]
  have hj : j < bs.length := by have := (List.getElem?_eq_some_iff.1 hu).1; simpa using this
  simp [List.getElem?_eq_getElem hj] at hu
  subst hu
  have hb := hB bs[j] (List.getElem_mem hj)
  have : (bytesRow (strOfNums bs) cap)[j]? = some (.int .u8 ((UInt8.ofNat bs[j].toNat).toNat : Int)) := by
    unfold bytesRow
    rw [Array.getElem?_append_left (by simp [strOfNums]; omega)]
    simp [strOfNums, hj]
  rw [this, toNat_of _ hb.1 hb.2]
end Go.Proofs.YtdioaohejoflcaaDoor

/-
  The contracts of package wire's reader for every call, by one plain function of what is left: Raw, Byte, Num, Bytes, Left; and of the helpers Cut and Within.
-/
namespace Go.Proofs.YtdioaohejoflcaaDoor
open Go.RowKit

/-- n bytes off the bytes bs: what is told, whether it is bad now, what is left. -/
def tk (bad : Bool) (bs : List Int) (n : Int) : List Int × Bool × List Int :=
  if 0 ≤ n ∧ n ≤ (bs.length : Int) then (bs.take n.toNat, bad, bs.drop n.toNat) else ([], true, [])
/-- a text behind its length. -/
def tkb (bad : Bool) (bs : List Int) (most : Int) : List Int × Bool × List Int :=
  if max most 0 < val (tk bad bs 2).1 then ([], true, []) else tk (tk bad bs 2).2.1 (tk bad bs 2).2.2 (val (tk bad bs 2).1)
theorem tk_ok (bad : Bool) (bs : List Int) (n : Nat) (h : n ≤ bs.length) : tk bad bs n = (bs.take n, bad, bs.drop n) := by
  unfold tk; rw [if_pos (by omega)]; simp
theorem tk_no (bad : Bool) (bs : List Int) (n : Int) (h : n < 0 ∨ (bs.length : Int) < n) : tk bad bs n = ([], true, []) := by
  unfold tk; rw [if_neg (by omega)]
theorem tk_bs1 {bad : Bool} {bs : List Int} {n : Int} (h : Bs bs) : Bs (tk bad bs n).1 := by
  unfold tk; split
  · exact h.take _
  · intro b hb; cases hb
theorem tk_bs2 {bad : Bool} {bs : List Int} {n : Int} (h : Bs bs) : Bs (tk bad bs n).2.2 := by
  unfold tk; split
  · exact h.drop _
  · intro b hb; cases hb
theorem tk_len {bad : Bool} {bs : List Int} {n : Int} : (tk bad bs n).1.length + (tk bad bs n).2.2.length ≤ bs.length := by
  unfold tk; split
  · simp; omega
  · simp
theorem tk_len1 {bad : Bool} {bs : List Int} {n : Nat} : (tk bad bs n).1.length ≤ n := by
  unfold tk; split
  · simp; omega
  · simp
theorem tkb_bs2 {bad : Bool} {bs : List Int} {n : Int} (h : Bs bs) : Bs (tkb bad bs n).2.2 := by
  unfold tkb; split
  · intro b hb; cases hb
  · exact tk_bs2 (tk_bs2 h)
theorem tkb_bs1 {bad : Bool} {bs : List Int} {n : Int} (h : Bs bs) : Bs (tkb bad bs n).1 := by
  unfold tkb; split
  · intro b hb; cases hb
  · exact tk_bs1 (tk_bs2 h)
theorem tkb_len {bad : Bool} {bs : List Int} {n : Int} : (tkb bad bs n).1.length + (tkb bad bs n).2.2.length ≤ bs.length := by
  unfold tkb; split
  · simp
  · have h1 := @tk_len bad bs 2
    have h2 := @tk_len (tk bad bs 2).2.1 (tk bad bs 2).2.2 (val (tk bad bs 2).1)
    omega
/-- a bad reader has nothing left. -/
def St (s : Bool × List Int) : Prop := s.1 = true → s.2 = []
theorem tk_st {bad : Bool} {bs : List Int} {n : Int} (h : St (bad, bs)) : St (tk bad bs n).2 := by
  intro hb
  unfold tk at hb ⊢
  split at hb
  · rename_i hc; rw [if_pos hc]; have := h hb; simp only at this; simp [this]
  · rename_i hc; rw [if_neg hc]
theorem tkb_st {bad : Bool} {bs : List Int} {n : Int} (h : St (bad, bs)) : St (tkb bad bs n).2 := by
  unfold tkb
  split
  · intro _; rfl
  · exact tk_st (bad := (tk bad bs 2).2.1) (bs := (tk bad bs 2).2.2) (tk_st h)

/-- what a call of a reader leaves: the state s, besides its two cells nothing old changed. -/
def Left (w : World) (q : Nat) (v : Value) (s : Bool × List Int) (w' : World) : Prop :=
  (∃ v2, Rd w' q v2 s.1 s.2 ∧ ∀ k, v2.ownBlock = some k → v.ownBlock = some k) ∧ Kp [q] w w'
theorem Left.trans {a b c : World} {q : Nat} {v : Value} {s t : Bool × List Int} (h : Left a q v s b) (k : ∀ v2, Rd b q v2 s.1 s.2 → Left b q v2 t c) : Left a q v t c := by
  obtain ⟨⟨v2, r2, o2⟩, k2⟩ := h
  obtain ⟨⟨v3, r3, o3⟩, k3⟩ := k v2 r2
  exact ⟨⟨v3, r3, fun i hi => o2 i (o3 i hi)⟩, k2.trans k3⟩
theorem Took.left {w w' : World} {q n : Nat} {v : Value} {bad : Bool} {bs : List Int} {r : Value} (h : Took w q n v bad bs r w') : Left w q v (bad, bs.drop n) w' := ⟨h.2.1, h.2.2.1⟩
theorem Left.bad {w w' : World} {q : Nat} {v : Value} (h : Rd w' q (.slice none 0 0) true []) (k : Kp [q] w w') : Left w q v (true, []) w' := ⟨⟨_, h, fun _ hk => by cases hk⟩, k⟩

theorem rnumber_any (q : Nat) (v : Value) (bad : Bool) (bs : List Int) (n : Nat) (w : World) (hR : Rd w q v bad bs) (h0 : 0 < n) (h4 : n ≤ 4) (hB : Bs bs) :
    Calls Tryd.prog 72 #[.pointer (some ⟨q, 0, none⟩), .int .i64 n] w fun e w' => e = .returned (.int .u32 (val (tk bad bs n).1)) ∧ Left w q v (tk bad bs n).2 w' := by
  rcases Nat.lt_or_ge bs.length n with h | h
  · rw [tk_no bad bs n (.inr (by omega))]
    exact (rnumber_bad q v bad bs n w hR h).mono fun _ _ ⟨h1, h2, h3⟩ => ⟨h1, Left.bad h2 h3⟩
  · rw [tk_ok bad bs n h]
    exact (rnumber_ok q v bad bs n w hR h h0 h4 hB).mono fun _ _ ⟨h1, r, h2⟩ => ⟨h1, h2.left⟩

theorem rnum_any (q : Nat) (v : Value) (bad : Bool) (bs : List Int) (w : World) (hR : Rd w q v bad bs) (hB : Bs bs) :
    Calls Tryd.prog 44 #[.pointer (some ⟨q, 0, none⟩)] w fun e w' => e = .returned (.int .u32 (val (tk bad bs 4).1)) ∧ Left w q v (tk bad bs 4).2 w' := by
  go_enter Tryd.func44, Tryd.ntmps44
  go_wp2_with (go_at_call 72; refine (rnumber_any q v bad bs 4 _ hR (by omega) (by omega) hB).mono ?_; rintro e w1 ⟨rfl, h1⟩)
  go_ret
  exact ⟨rfl, h1⟩
theorem val_one (cs : List Int) (h : Bs cs) (hl : cs.length ≤ 1) : IntKind.u8.wrap (val cs) = val cs := by
  have h1 := val_bd cs h
  have : cs.length = 0 ∨ cs.length = 1 := by omega
  have h2 : 0 ≤ val cs ∧ val cs ≤ 255 := by rcases this with e | e <;> rw [e] at h1 <;> omega
  simp [IntKind.wrap, IntKind.signed, IntKind.bits]
  omega
/-- a slice r of the call's own that reads as bs. -/
def Own (w w' : World) (r : Value) (bs : List Int) : Prop := Sl w' r bs ∧ ∀ k, r.ownBlock = some k → w.heap.size ≤ k

theorem raw_ok (q : Nat) (v : Value) (bad : Bool) (bs : List Int) (n : Int) (w : World) (hR : Rd w q v bad bs) (hb : bs.length ≤ 140737488355328) :
    Calls Tryd.prog 73 #[.pointer (some ⟨q, 0, none⟩), .int .i64 n] w fun e w' => ∃ ao c, e = .returned (.slice ao (tk bad bs n).1.length c) ∧ Own w w' (.slice ao (tk bad bs n).1.length c) (tk bad bs n).1 ∧ Left w q v (tk bad bs n).2 w' := by
  by_cases hn : 0 ≤ n ∧ n ≤ (bs.length : Int)
  · obtain ⟨m, rfl⟩ := Int.eq_ofNat_of_zero_le hn.1
    have hm : m ≤ bs.length := by omega
    rw [tk_ok bad bs m hm]
    have hl : (bs.take m).length = m := by simp; omega
    obtain ⟨cs, hcs⟩ : ∃ cs, cs = bs.take m := ⟨_, rfl⟩
    simp only
    rw [← hcs] at hl ⊢
    have HC : Hid (cs = bs.take m) := hcs
    clear hcs hn
    subst hl
    go_enter Tryd.func73, Tryd.ntmps73
    go_wp2_with fail
    refine (take_ok q v bad bs cs.length _ hR hm).mono ?_
    rintro e w1 ⟨ao, c, rfl, hT⟩
    have hS : Sl w1 (.slice ao cs.length c) cs := by have := hT.1; rwa [← HC.out] at this
    have hL := hT.left
    clear hT
    go_wp2_with fail
    refine (copy_any _ cs _ hS (by omega)).mono ?_
    rintro e w2 ⟨ao2, c2, rfl, h1, h2⟩
    go_wp2_with fail
    go_ret
    refine ⟨ao2, c2, rfl, ⟨Sl.of_owns h1, fun k hk => Nat.le_trans hL.2.size (h1.lt k hk).1⟩, ?_⟩
    obtain ⟨⟨v2, r2, o2⟩, k2⟩ := hL
    exact ⟨⟨v2, r2.kept h2 (by simp) (by simp), o2⟩, k2.trans (h2.mono (by simp))⟩
  · have hn' : n < 0 ∨ (bs.length : Int) < n := by omega
    rw [tk_no bad bs n hn']
    go_enter Tryd.func73, Tryd.ntmps73
    go_wp2_with fail
    refine (take_bad q v bad bs n _ hR hn').mono ?_
    rintro e w1 ⟨rfl, h1, h2⟩
    go_wp2_with fail
    refine (copy_any _ [] _ (Sl.nil w1) (by simp)).mono ?_
    rintro e w2 ⟨ao2, c2, rfl, h3, h4⟩
    go_wp2_with fail
    go_ret
    exact ⟨ao2, c2, rfl, ⟨Sl.of_owns h3, fun k hk => Nat.le_trans h2.size (h3.lt k hk).1⟩, Left.bad (h1.kept h4 (by simp) (by simp)) (h2.trans (h4.mono (by simp)))⟩

end Go.Proofs.YtdioaohejoflcaaDoor
