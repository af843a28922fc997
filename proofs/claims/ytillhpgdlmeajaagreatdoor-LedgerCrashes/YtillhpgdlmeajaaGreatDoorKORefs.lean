/-
  The contracts of the reference's Secret, Shown, Public and Sign.
-/
import Derived.Test.YtillhpgdlmeajaaGreatDoorKHRefs
import Derived.Test.YtillhpgdlmeajaaGreatDoorKOSmalls
namespace Go.Proofs.YtillhpgdlmeajaaGreatDoor
open Go.RowKit

theorem lists3 {w : World} {v u t : Value} {bs cs ds : List Int} (h : Sl w v bs) (hB : Bs bs) (k : Sl w u cs) (hC : Bs cs) (j : Sl w t ds) (hD : Bs ds) : Lists (w.alloc (.cells #[v, u, t] 22)) (.slice (some ⟨w.heap.size, 0, none⟩) 3 3) [(v, bs), (u, cs), (t, ds)] :=
  lists_of_block (l := [(v, bs), (u, cs), (t, ds)]) (t := 22) (fr := (0, 0)) (heap_alloc_new w _) (by simp) (fun x hx => by
    rcases (by simpa using hx : x = (v, bs) ∨ x = (u, cs) ∨ x = (t, ds)) with rfl | rfl | rfl
    · exact ⟨h.kept ((Kp.refl [] w).alloc _) (by simp), hB⟩
    · exact ⟨k.kept ((Kp.refl [] w).alloc _) (by simp), hC⟩
    · exact ⟨j.kept ((Kp.refl [] w).alloc _) (by simp), hD⟩)
theorem cat3 (v u t : Value) (bs cs ds : List Int) : cat [(v, bs), (u, cs), (t, ds)] = bs ++ (cs ++ ds) := by simp [cat]
theorem row_nil (w : World) (base : Nat) : Row w base (.slice none 0 0) [] := ⟨rfl, .inl ⟨rfl, rfl⟩⟩

set_option maxHeartbeats 400000 in
theorem refnum_any (n : Int) (w : World) :
    Calls Tryz.prog 49 #[.slice none 0 0, .int .u32 n] w fun e w' => ∃ ao m c, e = .returned (.slice ao m c) ∧ Row w' w.heap.size (.slice ao m c) (be4 n) ∧ Kp [] w w' := by
  obtain ⟨cs, hcs⟩ : ∃ cs, cs = be4 n := ⟨_, rfl⟩
  have hl : cs.length = 4 := by rw [hcs]; rfl
  have hsl : Sl (w.alloc (.cells #[.int .u8 (n / 16777216 % 256), .int .u8 (n / 65536 % 256), .int .u8 (n / 256 % 256), .int .u8 (n % 256)] 5)) (.slice (some ⟨w.heap.size, 0, none⟩) 4 4) cs := by
    rw [hcs]; exact Sl.block (cs := be4 n) (t := 5) (heap_alloc_new w _) (by simp [be4, maxLen])
  rw [← hcs]
  clear hcs
  go_enter Tryz.func49, Tryz.ntmps49
  go_wp2_with (at_builtin; refine wpList_append_row rfl _ _ rfl w.heap.size (.slice none 0 0) [] rfl (row_nil _ _) _ cs rfl hsl (by simp; omega) (by simp) ?_; intro ao m c w1 r1 s1)
  go_ret
  exact ⟨ao, m, c, rfl, r1, ((Kp.refl [] w).alloc _).then s1.1 (by simp [Value.ownBlock])⟩

set_option maxRecDepth 100000 in
set_option maxHeartbeats 1000000 in
theorem refsecret_any (vb : Value) (bs : List Int) (key bit side : Int) (r : List Int) (hr : r = secP bs key bit side) (w : World) (hS : Sl w vb bs) (hB : Bs bs) (hl : bs.length ≤ 1000) :
    Calls Tryz.prog 160 #[vb, .int .i64 key, .int .i64 bit, .int .i64 side] w fun e w' => ∃ ao m c, e = .returned (.slice ao m c) ∧ Row w' w.heap.size (.slice ao m c) r ∧ Kp [] w w' := by
  have HB := hide hB
  have HS := hide hS
  have hbe : be4 (key % 4294967296) = be4 key := by
    unfold be4
    congr 1
    · omega
    · congr 1
      · omega
      · congr 1
        · omega
        · congr 1; omega
  have HBE := hide hbe
  have HR := hide hr
  obtain ⟨ab, cb, hvb, _⟩ := hS
  obtain ⟨nb, hnb⟩ : ∃ n, n = bs.length := ⟨_, rfl⟩
  rw [← hnb] at hvb
  subst hvb
  clear hr hnb hB hbe
  go_enter Tryz.func160, Tryz.ntmps160
  go_wp2_with fail
  refine (refnum_any _ _).mono ?_
  rintro ee w1 ⟨a1, m1, c1, rfl, R1, K1⟩
  rw [unhide HBE] at R1
  have HR1 := hide R1
  have HK1 := hide K1
  clear HBE R1 K1
  go_wp2_with fail
  obtain ⟨ob, hob⟩ : ∃ o : Obj, o = (.cells #[.int .u8 (bit % 256), .int .u8 (side % 256)] 5) := ⟨_, rfl⟩
  have hP : Sl (w1.alloc ob) (.slice (some ⟨w1.heap.size, 0, none⟩) 2 2) [bit % 256, side % 256] := by
    rw [hob]; exact Sl.block (cs := [bit % 256, side % 256]) (t := 5) (fr := (0, 0)) (heap_alloc_new w1 _) (by simp [maxLen])
  have hPB : Bs [bit % 256, side % 256] := by
    intro b hb
    simp only [List.mem_cons, List.not_mem_nil, or_false] at hb
    rcases hb with rfl | rfl <;> omega
  have Ka := (Kp.refl [] w1).alloc ob
  have HL := lists3 (((unhide HS).kept (unhide HK1) (by simp)).kept Ka (by simp)) (unhide HB) ((unhide HR1).sl.kept Ka (by simp)) (be4_bs key) hP hPB
  rw [show (w1.alloc ob).heap.size = w1.heap.size + 1 by simp] at HL
  have HK := hide ((unhide HK1).trans (Ka.alloc (.cells #[.slice ab nb cb, .slice a1 m1 c1, .slice (some ⟨w1.heap.size, 0, none⟩) 2 2] 22)))
  rw [← hob]
  refine (reftagged_any 10 _ _ r (by rw [unhide HR, cat3]; rfl) _ HL (by omega) (by omega) (by simp) ?_).mono ?_
  · intro x hx
    rcases (by simpa using hx : x = (Value.slice ab nb cb, bs) ∨ x = (Value.slice a1 m1 c1, be4 key) ∨ x = (Value.slice (some ⟨w1.heap.size, 0, none⟩) 2 2, [bit % 256, side % 256])) with rfl | rfl | rfl
    · simp; omega
    · simp [be4]
    · simp
  rintro ee w2 ⟨ao2, m2, c2, rfl, R2, K2⟩
  have HR2 := hide (row_new R2 (unhide HK))
  have HK2 := hide ((unhide HK).trans K2)
  clear HL HK HR hob R2 K2 Ka hP hPB
  go_wp2_with fail
  go_ret
  exact ⟨ao2, m2, c2, rfl, unhide HR2, unhide HK2⟩

set_option maxRecDepth 100000 in
set_option maxHeartbeats 1000000 in
theorem refshown_any (vb : Value) (bs : List Int) (key bit side : Int) (r : List Int) (hr : r = shnP bs key bit side) (w : World) (hS : Sl w vb bs) (hB : Bs bs) (hl : bs.length ≤ 1000) :
    Calls Tryz.prog 159 #[vb, .int .i64 key, .int .i64 bit, .int .i64 side] w fun e w' => ∃ ao m c, e = .returned (.slice ao m c) ∧ Row w' w.heap.size (.slice ao m c) r ∧ Kp [] w w' := by
  obtain ⟨q, hq⟩ : ∃ q, q = secP bs key bit side := ⟨_, rfl⟩
  have HC := hide (refsecret_any vb bs key bit side q hq w hS hB hl)
  have HQL : Hid (q.length = 32) := by rw [hq]; exact secP_len _ _ _ _
  have HQB : Hid (Bs q) := by rw [hq]; exact sha_bs _
  have HR : Hid (r = sha (11 :: q)) := by rw [hr, hq]; rfl
  obtain ⟨ab, cb, hvb, _⟩ := hS
  obtain ⟨nb, hnb⟩ : ∃ n, n = bs.length := ⟨_, rfl⟩
  rw [← hnb] at hvb
  subst hvb
  clear hr hnb hB hq
  go_enter Tryz.func159, Tryz.ntmps159
  go_wp2_with fail
  refine (unhide HC).mono ?_
  rintro ee w1 ⟨a1, m1, c1, rfl, R1, K1⟩
  have HL := hide (lists1 R1.sl (unhide HQB))
  have HK := hide (K1.trans ((Kp.refl [] w1).alloc (.cells #[.slice a1 m1 c1] 22)))
  clear HC R1 K1
  go_wp2_with fail
  refine (reftagged_any 11 _ _ r (by rw [unhide HR, cat1]) _ (unhide HL) (by omega) (by omega) (by simp) (by have := unhide HQL; simp; omega)).mono ?_
  rintro ee w2 ⟨ao2, m2, c2, rfl, R2, K2⟩
  have HR2 := hide (row_new R2 (unhide HK))
  have HK2 := hide ((unhide HK).trans K2)
  clear HL HK HR R2 K2
  go_wp2_with fail
  go_ret
  exact ⟨ao2, m2, c2, rfl, unhide HR2, unhide HK2⟩
end Go.Proofs.YtillhpgdlmeajaaGreatDoor

/-
  The contract of the reference's Public.
-/
namespace Go.Proofs.YtillhpgdlmeajaaGreatDoor
open Go.RowKit

theorem flat_two (bs : List Int) (key : Int) (k : Nat) : (ptsP bs key noneC (2 * (k + 1))).flatten = (ptsP bs key noneC (2 * k)).flatten ++ shnP bs key (k : Nat) 0 ++ shnP bs key (k : Nat) 1 := by
  rw [show 2 * (k + 1) = 2 * k + 1 + 1 by omega, ptsP_succ, ptsP_succ, List.flatten_append, List.flatten_append]
  have e0 := ptP_at bs key noneC k 0 (by omega)
  have e1 := ptP_at bs key noneC k 1 (by omega)
  rw [Nat.add_zero] at e0
  rw [e0, e1]
  simp [noneC]
theorem flat_len (bs : List Int) (key : Int) (c : Nat → Nat → Bool) (n : Nat) : (ptsP bs key c n).flatten.length = 32 * n := by
  induction n with
  | zero => rfl
  | succ n ih => rw [ptsP_succ, List.flatten_append, List.length_append, ih]; simp [ptP_len]; omega

set_option maxRecDepth 100000 in
set_option maxHeartbeats 1000000 in
theorem refpublic_any (vb : Value) (bs : List Int) (key : Int) (r : List Int) (hr : r = pubP bs key) (w : World) (hS : Sl w vb bs) (hB : Bs bs) (hl : bs.length ≤ 1000) :
    Calls Tryz.prog 136 #[vb, .int .i64 key] w fun e w' => ∃ ao m c, e = .returned (.slice ao m c) ∧ Row w' w.heap.size (.slice ao m c) r ∧ Kp [] w w' := by
  have HR := hide hr
  have HS := hide hS
  have HB := hide hB
  obtain ⟨ab, cb, hvb, _⟩ := hS
  obtain ⟨nb, hnb⟩ : ∃ n, n = bs.length := ⟨_, rfl⟩
  rw [← hnb] at hvb
  subst hvb
  clear hr hnb hB
  go_enter Tryz.func136, Tryz.ntmps136
  go_wp2_with fail
  go_loopw [5, 6] (fun v i wr => ∃ (k m c : Nat) (ao : Option Addr), k ≤ 32 ∧ v = .slice ao m c ∧ i = .int .i64 k ∧ Row wr w.heap.size v (ptsP bs key noneC (2 * k)).flatten ∧ Kp [] w wr) (fun _ i _ => 32 - (intOf i).toNat)
  case atStart => exact ⟨0, 0, 0, none, by omega, rfl, rfl, row_nil _ _, Kp.refl _ _⟩
  case round =>
    obtain ⟨k, m, c, ao, hk, rfl, rfl, Rr, Kr⟩ := hrel
    have HRr := hide Rr
    have HKr := hide Kr
    clear Rr Kr
    by_cases hlt : k < 32
    · have hlt2 : (k : Int) < 32 := by omega
      obtain ⟨fl, hfl⟩ : ∃ fl, fl = (ptsP bs key noneC (2 * k)).flatten := ⟨_, rfl⟩
      obtain ⟨r0, hr0⟩ : ∃ r, r = shnP bs key (k : Nat) 0 := ⟨_, rfl⟩
      obtain ⟨r1, hr1⟩ : ∃ r, r = shnP bs key (k : Nat) 1 := ⟨_, rfl⟩
      have HE : Hid ((ptsP bs key noneC (2 * (k + 1))).flatten = fl ++ r0 ++ r1) := by rw [hfl, hr0, hr1]; exact flat_two bs key k
      have hfll : fl.length ≤ 2048 := by rw [hfl, flat_len]; omega
      have hr0l : r0.length = 32 := by rw [hr0]; exact shnP_len _ _ _ _
      have hr1l : r1.length = 32 := by rw [hr1]; exact shnP_len _ _ _ _
      rw [← hfl] at HRr
      have HR0 := hide hr0
      have HR1 := hide hr1
      clear hfl hr0 hr1
      go_wp2_with fail
      refine (refshown_any _ bs key (k : Nat) 0 r0 (unhide HR0) wr ((unhide HS).kept (unhide HKr) (by simp)) (unhide HB) hl).mono ?_
      rintro ee w2 ⟨a2, m2, c2, rfl, R2, K2⟩
      have HR2 := hide R2
      have HK2 := hide K2
      clear R2 K2
      go_wp2_with (at_builtin; refine wpList_append_row rfl (.tmp 11) (.tmp 15) rfl w.heap.size _ fl rfl ((unhide HRr).kept (unhide HK2) (by simp)) _ r0 rfl (unhide HR2).sl (by omega) (by have := (unhide HKr).size; have := (unhide HK2).size; omega) ?_; intro ao3 m3 c3 w3 R3 s3)
      have HK3 := hide ((unhide HRr).step (unhide HKr) (s3.after (unhide HK2)))
      have HR3 := hide R3
      clear R3 s3 HR2 HK2 HRr HKr
      refine (refshown_any _ bs key (k : Nat) 1 r1 (unhide HR1) w3 ((unhide HS).kept (unhide HK3) (by simp)) (unhide HB) hl).mono ?_
      rintro ee w4 ⟨a4, m4, c4, rfl, R4, K4⟩
      have HR4 := hide R4
      have HK4 := hide K4
      clear R4 K4
      go_wp2_with (at_builtin; refine wpList_append_row rfl (.tmp 16) (.tmp 20) rfl w.heap.size _ (fl ++ r0) rfl ((unhide HR3).kept (unhide HK4) (by simp)) _ r1 rfl (unhide HR4).sl (by rw [List.length_append]; omega) (by have := (unhide HK3).size; have := (unhide HK4).size; omega) ?_; intro ao5 m5 c5 w5 R5 s5)
      go_roundw
      case rel => exact ⟨k + 1, m5, c5, ao5, by omega, rfl, by go_num, by rw [unhide HE]; exact R5, (unhide HR3).step (unhide HK3) (s5.after (unhide HK4))⟩
      case measure => simp [intOf]; omega
    · obtain rfl : k = 32 := by omega
      obtain ⟨fl, hfl⟩ : ∃ fl, fl = (ptsP bs key noneC 64).flatten := ⟨_, rfl⟩
      have hfll : fl.length ≤ 2048 := by rw [hfl, flat_len]; omega
      have hFB : Hid (Bs fl) := by
        rw [hfl]
        intro b hb
        obtain ⟨x, hx, hb⟩ := List.mem_flatten.1 hb
        unfold ptsP at hx
        obtain ⟨i, _, rfl⟩ := List.mem_map.1 hx
        exact ptP_bs _ _ _ _ b hb
      have hrr : Hid (Row wr w.heap.size (.slice ao m c) fl) := by rw [hfl]; exact unhide HRr
      have HR2 : Hid (r = sha (12 :: fl)) := by rw [unhide HR, hfl]; rfl
      have HL := hide (lists1 (unhide hrr).sl (unhide hFB))
      have HK := hide ((unhide HKr).trans ((Kp.refl [] wr).alloc (.cells #[.slice ao m c] 22)))
      clear hfl HRr HKr HR hrr
      go_wp2_with fail
      refine (reftagged_any 12 _ _ r (by rw [unhide HR2, cat1]) _ (unhide HL) (by omega) (by omega) (by simp) (by simp; omega)).mono ?_
      rintro ee w2 ⟨ao2, m2, c2, rfl, R2, K2⟩
      have HR3 := hide (row_new R2 (unhide HK))
      have HK2 := hide ((unhide HK).trans K2)
      clear HL HK HR2 R2 K2
      go_wp2_with fail
      go_ret
      exact ⟨ao2, m2, c2, rfl, unhide HR3, unhide HK2⟩
end Go.Proofs.YtillhpgdlmeajaaGreatDoor

/-
  The contract of the reference's Sign.
-/
namespace Go.Proofs.YtillhpgdlmeajaaGreatDoor
open Go.RowKit

theorem acc_nil (w : World) : Acc w [] (.slice none 0 0) w := ⟨[], ⟨⟨rfl, .inl ⟨rfl, rfl⟩⟩, fun x hx => by cases hx⟩, rfl, Kp.refl _ _⟩

set_option maxRecDepth 100000 in
set_option maxHeartbeats 2000000 in
theorem refsign_any (vb : Value) (bs : List Int) (key : Int) (vm : Value) (ms : List Int) (d : Int) (hd : d = digP ms) (w : World) (hS : Sl w vb bs) (hB : Bs bs) (hl : bs.length ≤ 1000) (hM : Sl w vm ms) (hMB : Bs ms) (hml : ms.length ≤ 1000) :
    Calls Tryz.prog 137 #[vb, .int .i64 key, vm] w fun e w' => ∃ ao m c, e = .returned (.slice ao m c) ∧ Acc w (sgnP bs key d) (.slice ao m c) w' := by
  have h0 : 0 ≤ d := by rw [hd]; exact (digP_bd ms).1
  have HD := hide (refdigest_any vm ms d hd w hM hMB (by omega))
  have HS := hide hS
  have HB := hide hB
  obtain ⟨ab, cb, hvb, _⟩ := hS
  obtain ⟨nb, hnb⟩ : ∃ n, n = bs.length := ⟨_, rfl⟩
  rw [← hnb] at hvb
  subst hvb
  obtain ⟨am, cm, hvm, _⟩ := hM
  obtain ⟨nm, hnm⟩ : ∃ n, n = ms.length := ⟨_, rfl⟩
  rw [← hnm] at hvm
  subst hvm
  clear hB hnb hnm hMB hd
  go_enter Tryz.func137, Tryz.ntmps137
  go_wp2_with fail
  refine (unhide HD).mono ?_
  rintro ee w2 ⟨rfl, K2⟩
  have A2 : Hid (Acc w [] (.slice none 0 0) w2) := (acc_nil w).mid K2
  clear HD K2
  go_wp2_with fail
  go_loopw [8, 9] (fun v i wr => ∃ (k m cc : Nat) (ao : Option Addr), k ≤ 32 ∧ v = .slice ao m cc ∧ i = .int .i64 k ∧ Acc w (ptsP bs key (digC d) (2 * k)) v wr) (fun _ i _ => 32 - (intOf i).toNat)
  case atStart => exact ⟨0, 0, 0, none, by omega, rfl, rfl, unhide A2⟩
  case round =>
    obtain ⟨k, m, cc, ao, hk, rfl, rfl, Ar⟩ := hrel
    clear A2
    have HA := hide Ar
    clear Ar
    by_cases hlt : k < 32
    · have hlt2 : (k : Int) < 32 := by omega
      have hj1 : (k : Int) ≤ 31 := by omega
      have hj2 : (31 - (k : Int)).toNat = 31 - k := by omega
      have hd0 : 0 ≤ d / 2 ^ (31 - k) := Int.ediv_nonneg h0 (Int.le_of_lt (Int.pow_pos (by omega)))
      have ha := and_one _ hd0
      rw [← sd_val] at ha
      obtain ⟨t, ht⟩ : ∃ t, t = sdP d k := ⟨_, rfl⟩
      rw [← ht] at ha
      have hC0 : Hid (digC d k 0 = (t == 0)) := by rw [ht]; rfl
      have hC1 : Hid (digC d k 1 = (t == 1)) := by rw [ht]; rfl
      have htl : t < 2 := by rw [ht]; exact sdP_lt d k
      clear ht hd0
      obtain ⟨wo, hwo⟩ : ∃ wo, wo = wr := ⟨_, rfl⟩
      subst hwo
      go_wp2_with fail
      go_loopw [8, 10] (fun v i wi => ∃ (s m cc : Nat) (ao : Option Addr), s ≤ 2 ∧ v = .slice ao m cc ∧ i = .int .i64 s ∧ Acc w (ptsP bs key (digC d) (2 * k + s)) v wi) (fun _ i _ => 2 - (intOf i).toNat)
      case atStart => exact ⟨0, m, cc, ao, by omega, rfl, rfl, unhide HA⟩
      case round =>
        clear HA
        obtain ⟨s, m2, cc2, ao2, hs, rfl, rfl, Ai⟩ := hrel
        have HI := hide Ai
        clear Ai
        obtain ⟨wi, hwi⟩ : ∃ wi, wi = wr := ⟨_, rfl⟩
        subst hwi
        rcases (by omega : s = 0 ∨ s = 1 ∨ s = 2) with rfl | rfl | rfl
        · rcases (by omega : t = 0 ∨ t = 1) with rfl | rfl
          · have hr0 := ptP_at bs key (digC d) k 0 (by omega)
            rw [show digC d k 0 = true from unhide hC0] at hr0
            obtain ⟨r, hr⟩ : ∃ r, r = ptP bs key (digC d) (2 * k + 0) := ⟨_, rfl⟩
            have HRB : Hid (Bs r) := by rw [hr]; exact ptP_bs _ _ _ _
            have HE : Hid (ptsP bs key (digC d) (2 * k + 0 + 1) = ptsP bs key (digC d) (2 * k + 0) ++ [r]) := by rw [hr]; exact ptsP_succ _ _ _ _
            have HLN : Hid ((ptsP bs key (digC d) (2 * k + 0)).length ≤ 1000000) := by rw [ptsP_len]; show 2 * k + 0 ≤ 1000000; omega
            rw [← hr] at hr0
            have HC := hide (refsecret_any (.slice ab nb cb) bs key k 0 r hr0 wi ((unhide HS).kept (unhide HI).kp (by simp)) (unhide HB) hl)
            clear hr hr0
            go_wp2_with fail
            refine (unhide HC).mono ?_
            rintro ee w4 ⟨a4, m4, c4, rfl, R4, K4⟩
            have HR4 := hide R4
            have HK4 := hide K4
            clear R4 K4 HC
            go_wp2_with (at_builtin; refine wpList_acc rfl (.tmp 30) (.tmp 36) rfl _ _ rfl (unhide HI) (unhide HLN) _ r (unhide HK4) (unhide HR4) (unhide HRB) rfl ?_; intro ao5 m5 c5 w5 A5)
            go_roundw
            case rel => exact ⟨0 + 1, m5, c5, ao5, by omega, rfl, by go_num, by have e := unhide HE; rw [← e] at A5; exact A5⟩
            case measure => simp [intOf]
          · have hr0 := ptP_at bs key (digC d) k 0 (by omega)
            rw [show digC d k 0 = false from unhide hC0] at hr0
            obtain ⟨r, hr⟩ : ∃ r, r = ptP bs key (digC d) (2 * k + 0) := ⟨_, rfl⟩
            have HRB : Hid (Bs r) := by rw [hr]; exact ptP_bs _ _ _ _
            have HE : Hid (ptsP bs key (digC d) (2 * k + 0 + 1) = ptsP bs key (digC d) (2 * k + 0) ++ [r]) := by rw [hr]; exact ptsP_succ _ _ _ _
            have HLN : Hid ((ptsP bs key (digC d) (2 * k + 0)).length ≤ 1000000) := by rw [ptsP_len]; show 2 * k + 0 ≤ 1000000; omega
            rw [← hr] at hr0
            have HC := hide (refshown_any (.slice ab nb cb) bs key k 0 r hr0 wi ((unhide HS).kept (unhide HI).kp (by simp)) (unhide HB) hl)
            clear hr hr0
            go_wp2_with fail
            refine (unhide HC).mono ?_
            rintro ee w4 ⟨a4, m4, c4, rfl, R4, K4⟩
            have HR4 := hide R4
            have HK4 := hide K4
            clear R4 K4 HC
            go_wp2_with (at_builtin; refine wpList_acc rfl (.tmp 38) (.tmp 44) rfl _ _ rfl (unhide HI) (unhide HLN) _ r (unhide HK4) (unhide HR4) (unhide HRB) rfl ?_; intro ao5 m5 c5 w5 A5)
            go_roundw
            case rel => exact ⟨0 + 1, m5, c5, ao5, by omega, rfl, by go_num, by have e := unhide HE; rw [← e] at A5; exact A5⟩
            case measure => simp [intOf]
        · rcases (by omega : t = 0 ∨ t = 1) with rfl | rfl
          · have hr0 := ptP_at bs key (digC d) k 1 (by omega)
            rw [show digC d k 1 = false from unhide hC1] at hr0
            obtain ⟨r, hr⟩ : ∃ r, r = ptP bs key (digC d) (2 * k + 1) := ⟨_, rfl⟩
            have HRB : Hid (Bs r) := by rw [hr]; exact ptP_bs _ _ _ _
            have HE : Hid (ptsP bs key (digC d) (2 * k + 1 + 1) = ptsP bs key (digC d) (2 * k + 1) ++ [r]) := by rw [hr]; exact ptsP_succ _ _ _ _
            have HLN : Hid ((ptsP bs key (digC d) (2 * k + 1)).length ≤ 1000000) := by rw [ptsP_len]; show 2 * k + 1 ≤ 1000000; omega
            rw [← hr] at hr0
            have HC := hide (refshown_any (.slice ab nb cb) bs key k 1 r hr0 wi ((unhide HS).kept (unhide HI).kp (by simp)) (unhide HB) hl)
            clear hr hr0
            go_wp2_with fail
            refine (unhide HC).mono ?_
            rintro ee w4 ⟨a4, m4, c4, rfl, R4, K4⟩
            have HR4 := hide R4
            have HK4 := hide K4
            clear R4 K4 HC
            go_wp2_with (at_builtin; refine wpList_acc rfl (.tmp 38) (.tmp 44) rfl _ _ rfl (unhide HI) (unhide HLN) _ r (unhide HK4) (unhide HR4) (unhide HRB) rfl ?_; intro ao5 m5 c5 w5 A5)
            go_roundw
            case rel => exact ⟨1 + 1, m5, c5, ao5, by omega, rfl, by go_num, by have e := unhide HE; rw [← e] at A5; exact A5⟩
            case measure => simp [intOf]
          · have hr0 := ptP_at bs key (digC d) k 1 (by omega)
            rw [show digC d k 1 = true from unhide hC1] at hr0
            obtain ⟨r, hr⟩ : ∃ r, r = ptP bs key (digC d) (2 * k + 1) := ⟨_, rfl⟩
            have HRB : Hid (Bs r) := by rw [hr]; exact ptP_bs _ _ _ _
            have HE : Hid (ptsP bs key (digC d) (2 * k + 1 + 1) = ptsP bs key (digC d) (2 * k + 1) ++ [r]) := by rw [hr]; exact ptsP_succ _ _ _ _
            have HLN : Hid ((ptsP bs key (digC d) (2 * k + 1)).length ≤ 1000000) := by rw [ptsP_len]; show 2 * k + 1 ≤ 1000000; omega
            rw [← hr] at hr0
            have HC := hide (refsecret_any (.slice ab nb cb) bs key k 1 r hr0 wi ((unhide HS).kept (unhide HI).kp (by simp)) (unhide HB) hl)
            clear hr hr0
            go_wp2_with fail
            refine (unhide HC).mono ?_
            rintro ee w4 ⟨a4, m4, c4, rfl, R4, K4⟩
            have HR4 := hide R4
            have HK4 := hide K4
            clear R4 K4 HC
            go_wp2_with (at_builtin; refine wpList_acc rfl (.tmp 30) (.tmp 36) rfl _ _ rfl (unhide HI) (unhide HLN) _ r (unhide HK4) (unhide HR4) (unhide HRB) rfl ?_; intro ao5 m5 c5 w5 A5)
            go_roundw
            case rel => exact ⟨1 + 1, m5, c5, ao5, by omega, rfl, by go_num, by have e := unhide HE; rw [← e] at A5; exact A5⟩
            case measure => simp [intOf]
        · go_wp2_with fail
          go_roundw
          case rel => exact ⟨k + 1, m2, cc2, ao2, by omega, rfl, by go_num, unhide HI⟩
          case measure => simp [intOf]; omega
    · obtain rfl : k = 32 := by omega
      go_wp2_with fail
      go_ret
      exact ⟨ao, m, cc, rfl, unhide HA⟩
end Go.Proofs.YtillhpgdlmeajaaGreatDoor

/-
  The contract of the reference's Root.
-/
namespace Go.Proofs.YtillhpgdlmeajaaGreatDoor
open Go.RowKit

theorem rts_take (d : Int) (ls : List (List Int)) (k : Nat) (h : k < ls.length) : ((rtsP d ls).take (k + 1)).flatten = ((rtsP d ls).take k).flatten ++ rtP d k ls[k] := by
  rw [List.take_succ_eq_append_getElem (by rw [rtsP_len]; exact h), List.flatten_append]
  simp [rtsP]
theorem rts_take_len (d : Int) (ls : List (List Int)) (k : Nat) (hl : ls.length = 64) (hg : ∀ i (h : i < ls.length), i < k → ls[i].length = 32) (hk : k ≤ 64) : ((rtsP d ls).take k).flatten.length ≤ 32 * k := by
  induction k with
  | zero => simp
  | succ k ih =>
    rw [rts_take d ls k (by omega), List.length_append]
    have h1 := ih (fun i h h' => hg i h (by omega)) (by omega)
    have h2 : (rtP d k (ls[k]'(by omega))).length = 32 := by
      unfold rtP
      split
      · exact sha_len _
      · exact hg k (by omega) (by omega)
    omega
theorem rtP_bs {d : Int} {i : Nat} {x : List Int} (h : Bs x) : Bs (rtP d i x) := by
  unfold rtP; split
  · exact sha_bs _
  · exact h

set_option maxRecDepth 100000 in
set_option maxHeartbeats 2000000 in
theorem refroot_any (vm : Value) (ms : List Int) (vl : Value) (l : List (Value × List Int)) (d : Int) (b : Bool) (r : List Int) (hd : d = digP ms) (hb : b = areP (l.map (·.2))) (hr : r = rootP d (l.map (·.2))) (w : World) (hM : Sl w vm ms) (hMB : Bs ms) (hml : ms.length ≤ 1000) (hL : Lists w vl l) :
    Calls Tryz.prog 119 #[vm, vl] w fun e w' => ∃ v, e = .returned (.tuple #[v, .bool b]) ∧ Rooted b r w.heap.size v w' ∧ Kp [] w w' := by
  have h0 : 0 ≤ d := by rw [hd]; exact (digP_bd ms).1
  have HD := hide (refdigest_any vm ms d hd w hM hMB (by omega))
  have hBl := hL.bs
  obtain ⟨al, cl, hvl, hll, hcell⟩ := hL
  subst hvl
  obtain ⟨am, cm, hvm, hj⟩ := hM
  clear hj
  obtain ⟨nm, hnm⟩ : ∃ n, n = ms.length := ⟨_, rfl⟩
  rw [← hnm] at hvm
  subst hvm
  clear hMB hd hnm
  obtain ⟨ls, hls⟩ : ∃ ls, ls = l.map (·.2) := ⟨_, rfl⟩
  rw [← hls] at hb hr
  have HR := hide hr
  have HBb := hide hb
  have HBl : Hid (∀ x ∈ ls, Bs x) := by rw [hls]; intro x hx; obtain ⟨y, hy, rfl⟩ := List.mem_map.1 hx; exact hBl y hy
  have HC : Hid (∀ i (h : i < ls.length), ∃ b off v, al = some ⟨b, off, none⟩ ∧ w.cell? ⟨b, off + i, none⟩ = some v ∧ Sl w v ls[i]) := by
    intro i hi
    have hil : i < l.length := by rw [hls] at hi; simpa using hi
    obtain ⟨b', o', e, h1, h2, _⟩ := hcell i hil
    refine ⟨b', o', l[i].1, e, h1, ?_⟩
    have : ls[i] = l[i].2 := by
      have h1 : ls[i]? = (l.map (·.2))[i]? := by rw [hls]
      rw [List.getElem?_eq_getElem hi, List.getElem?_map, List.getElem?_eq_getElem hil] at h1
      exact Option.some.inj h1
    rw [this]; exact h2
  have hlen : l.length = ls.length := by rw [hls]; simp
  rw [hlen] at hll ⊢
  clear hr hb hBl hcell hls hlen
  by_cases h64 : ls.length = 64
  · have H64 := hide h64
    rw [h64]
    clear h64 hll
    go_enter Tryz.func119, Tryz.ntmps119
    go_wp2_with fail
    refine (unhide HD).mono ?_
    rintro ee w2 ⟨rfl, K2⟩
    have HK2 := hide K2
    clear HD K2
    go_wp2_with fail
    go_loopw [7, 8] (fun v i wr => ∃ (k m c : Nat) (ao : Option Addr), k ≤ 64 ∧ v = .slice ao m c ∧ i = .int .i64 k ∧ Row wr w.heap.size v ((rtsP d ls).take k).flatten ∧ (∀ i (h : i < ls.length), i < k → ls[i].length = 32) ∧ Kp [] w wr) (fun _ i _ => 64 - (intOf i).toNat)
    case atStart => exact ⟨0, 0, 0, none, by omega, rfl, rfl, row_nil _ _, (fun i h h' => by omega), unhide HK2⟩
    case round =>
      obtain ⟨k, m, c, ao, hk, rfl, rfl, Rr, hgood, Kr⟩ := hrel
      have HRr := hide Rr
      have HGo := hide hgood
      have HKr := hide Kr
      clear Rr hgood Kr HK2
      by_cases hlt : k < 64
      · have hlt2 : (k : Int) < 64 := by omega
        have hkl : k < ls.length := by have := unhide H64; omega
        obtain ⟨b', o', v, rfl, hc, hS⟩ := unhide HC k hkl
        have hcw := (unhide HKr).cell hc (by simp)
        have hSw := hS.kept (unhide HKr) (by simp)
        have HE := hide (rts_take d ls k hkl)
        have hfl := rts_take_len d ls k (unhide H64) (unhide HGo) hk
        have hBx := unhide HBl ls[k] (List.getElem_mem hkl)
        obtain ⟨fl, hfle⟩ : ∃ fl, fl = ((rtsP d ls).take k).flatten := ⟨_, rfl⟩
        rw [← hfle] at HE hfl HRr
        obtain ⟨x, hx⟩ : ∃ x, x = ls[k] := ⟨_, rfl⟩
        have HX := hide hx
        rw [← hx] at HE hS hSw hBx
        have HSw := hide hSw
        obtain ⟨ax, cx, hxv, hj⟩ := hS
        clear hj
        subst hxv
        clear hc HC hfle hx hSw
        by_cases h32 : x.length = 32
        · rw [h32] at hcw HSw
          have HG2 : Hid (∀ i (h : i < ls.length), i < k + 1 → ls[i].length = 32) := by
            intro i hi hik
            rcases Nat.lt_or_ge i k with h | h
            · exact unhide HGo i hi h
            · obtain rfl : i = k := by omega
              rw [← unhide HX]; exact h32
          obtain ⟨j, hj⟩ : ∃ j, j = k / 2 := ⟨_, rfl⟩
          have hji : (k : Int) / 2 = (j : Int) := by omega
          have hjt : Int.tdiv (k : Int) 2 = (j : Int) := by rw [Int.tdiv_eq_ediv_of_nonneg (by omega)]; omega
          have hj31 : (j : Int) ≤ 31 := by omega
          have hj2 : (31 - (j : Int)).toNat = 31 - j := by omega
          have hd0 : 0 ≤ d / 2 ^ (31 - j) := Int.ediv_nonneg h0 (Int.le_of_lt (Int.pow_pos (by omega)))
          have ha := and_one _ hd0
          rw [← sd_val] at ha
          obtain ⟨t, ht⟩ : ∃ t, t = sdP d j := ⟨_, rfl⟩
          rw [← ht] at ha
          have ht1 : (t : Int) ≤ 1 := by have := sdP_lt d j; rw [← ht] at this; omega
          obtain ⟨s, hs⟩ : ∃ s, s = k % 2 := ⟨_, rfl⟩
          have hsi : (k : Int) % 2 = (s : Int) := by omega
          have hst : Int.tmod (k : Int) 2 = (s : Int) := by rw [Int.tmod_eq_emod_of_nonneg (by omega)]; omega
          have hrt : rtP d k x = if t = s then sha (11 :: x) else x := by
            unfold rtP digC
            rw [← hj, ← hs, ← ht]
            by_cases h : t = s <;> simp [h]
          rw [hrt] at HE
          clear hrt hj hs ht hd0
          by_cases hts : t = s
          · subst hts
            rw [if_pos rfl] at HE
            have HL := hide (lists1 (unhide HSw) hBx)
            have HK := hide ((Kp.refl [] wr).alloc (.cells #[.slice ax 32 cx] 22))
            obtain ⟨q, hq⟩ : ∃ q, q = sha (11 :: x) := ⟨_, rfl⟩
            have hql : q.length = 32 := by rw [hq]; exact sha_len _
            rw [← hq] at HE
            have HQ := hide hq
            clear hq
            go_wp2_with fail
            refine (reftagged_any 11 _ _ q (by rw [unhide HQ, cat1]) _ (unhide HL) (by omega) (by omega) (by simp) (by simp; omega)).mono ?_
            rintro ee w5 ⟨a5, m5, c5, rfl, R5, K5⟩
            have HS5 := hide R5.sl
            have HK5 := hide ((unhide HK).trans K5)
            clear R5 K5 HL HK
            go_wp2_with (at_builtin; refine wpList_append_row rfl (.tmp 45) (.tmp 46) rfl w.heap.size _ fl rfl ((unhide HRr).kept (unhide HK5) (by simp)) _ q rfl (unhide HS5) (by omega) (by have := (unhide HKr).size; have := (unhide HK5).size; omega) ?_; intro ao6 m6 c6 w6 R6 s6)
            go_roundw
            case rel => exact ⟨k + 1, m6, c6, ao6, by omega, rfl, by go_num, by rw [unhide HE]; exact R6, unhide HG2, (unhide HRr).step (unhide HKr) (s6.after (unhide HK5))⟩
            case measure => simp [intOf]; omega
          · rw [if_neg hts] at HE
            have htsi : ((t : Int) == (s : Int)) = false := beq_eq_false_iff_ne.2 (by omega)
            go_wp2_with (at_builtin; refine wpList_append_row rfl (.tmp 45) (.tmp 46) rfl w.heap.size _ fl rfl (unhide HRr) _ x rfl (unhide HSw) (by omega) (by have := (unhide HKr).size; omega) ?_; intro ao6 m6 c6 w6 R6 s6)
            go_roundw
            case rel => exact ⟨k + 1, m6, c6, ao6, by omega, rfl, by go_num, by rw [unhide HE]; exact R6, unhide HG2, (unhide HRr).step (unhide HKr) s6⟩
            case measure => simp [intOf]; omega
        · have hbad := areP_bad (ls := ls) k hkl (by rw [← unhide HX]; exact h32)
          have hbf : b = false := (unhide HBb).trans hbad
          have h32i : ¬ (x.length : Int) = 32 := by omega
          clear hbad
          go_wp2_with fail
          go_ret2
          exact ⟨_, by rw [hbf]; rfl, by rw [hbf]; rfl, unhide HKr⟩
      · obtain rfl : k = 64 := by omega
        have hgd := areP_good (ls := ls) (unhide H64) (fun i hi => unhide HGo i hi (by have := unhide H64; omega))
        have hbt : b = true := (unhide HBb).trans hgd
        have hfl := rts_take_len d ls 64 (unhide H64) (unhide HGo) (by omega)
        have htk : (rtsP d ls).take 64 = rtsP d ls := List.take_of_length_le (by rw [rtsP_len]; have := unhide H64; omega)
        rw [htk] at HRr hfl
        obtain ⟨fl, hfle⟩ : ∃ fl, fl = (rtsP d ls).flatten := ⟨_, rfl⟩
        have hFB : Bs fl := by
          rw [hfle]
          intro y hy
          obtain ⟨z, hz, hy⟩ := List.mem_flatten.1 hy
          obtain ⟨i, hi, rfl⟩ := List.getElem_of_mem hz
          have hi2 : i < ls.length := by rw [rtsP_len] at hi; exact hi
          have : (rtsP d ls)[i] = rtP d i ls[i] := by simp [rtsP]
          rw [this] at hy
          exact rtP_bs (unhide HBl _ (List.getElem_mem hi2)) y hy
        have HR2 : Hid (r = sha (12 :: fl)) := by rw [unhide HR, hfle]; rfl
        rw [← hfle] at HRr hfl
        have HL := hide (lists1 (unhide HRr).sl hFB)
        have HK := hide ((unhide HKr).trans ((Kp.refl [] wr).alloc (.cells #[.slice ao m c] 22)))
        clear hfle hFB htk hgd HC HRr HKr HR
        subst hbt
        go_wp2_with fail
        refine (reftagged_any 12 _ _ r (by rw [unhide HR2, cat1]) _ (unhide HL) (by omega) (by omega) (by simp) (by simp; omega)).mono ?_
        rintro ee w6 ⟨a6, m6, c6, rfl, R6, K6⟩
        have HR6 := hide (row_new R6 (unhide HK))
        have HK6 := hide ((unhide HK).trans K6)
        clear HL HK R6 K6
        go_wp2_with fail
        go_ret2
        exact ⟨_, rfl, ⟨a6, m6, c6, rfl, unhide HR6⟩, unhide HK6⟩
  · have hbad := areP_short (ls := ls) h64
    have hbf : b = false := (unhide HBb).trans hbad
    subst hbf
    have hni : ¬ (ls.length : Int) = 64 := by omega
    clear HC hbad
    go_enter Tryz.func119, Tryz.ntmps119
    go_wp2_with fail
    go_ret2
    exact ⟨_, rfl, rfl, Kp.refl _ _⟩
end Go.Proofs.YtillhpgdlmeajaaGreatDoor
