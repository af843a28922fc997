/-
  The contracts of package ledger: leaves, Root, Entry, Public, KeysLeft, isSize.
-/
import Derived.Test.YtillhpgdlmeajaaGreatDoorKUAdd
import Derived.Test.YtillhpgdlmeajaaGreatDoorKTRoot
import Derived.Test.YtillhpgdlmeajaaGreatDoorKSTree
namespace Go.Proofs.YtillhpgdlmeajaaGreatDoor
open Go.RowKit
open Go.Proofs
set_option linter.unusedVariables false

theorem RowU.room {w : World} {base m c : Nat} {ao : Option Addr} {l : List (List Int)} (h : RowU w base (.slice ao m c) l) : m ≤ c ∧ c ≤ maxLen ∧ (ao = none → c = 0) := by
  rcases h.2 with ⟨h', h0⟩ | ⟨g, cap, cur, h', hb, hg, hc, hx, hs, ht⟩
  · injection h' with h1 h2 h3
    exact ⟨by omega, by rw [h3]; unfold maxLen; omega, fun _ => h3⟩
  · injection h' with h1 h2 h3
    subst h3
    rw [h2]
    exact ⟨hc, by omega, fun e => by rw [h1] at e; cases e⟩
theorem run_ufirst (ao : Option Addr) (n c k : Nat) (w : World) (h2 : k ≤ c) (h4 : ao = none → c = 0) :
    (Instr.sliceAt 109 (.slice ao n c) none (some (.int .i64 (k : Nat))) none).run Tryz.prog w = .ok (.slice ao k c) w := by
  cases ao with
  | none =>
    have h0 := h4 rfl
    obtain rfl : k = 0 := by omega
    subst h0
    simp [go_sem, Tryz.underlying109]
  | some a =>
    have : (k : Int) ≤ (c : Int) := by omega
    simp [go_sem, Tryz.underlying109, this]
theorem Acc.lcm {w wr : World} {ls : List (List Int)} {v : Value} (h : Acc w ls v wr) (hl : ls.length ≤ 1000) : LcM ls v wr := by
  obtain ⟨l, h1, h2, _⟩ := h
  exact ⟨l, lc_of_owns h1.1 (h1.lists (by rw [← List.length_map (f := (·.2)), h2]; exact hl)), h2⟩
section
variable {w0 w : World} {l pd pk : Nat} {S : LS} {f : Fps}
set_option maxRecDepth 100000 in
set_option maxHeartbeats 4000000 in
theorem uleaves_any (h : Lg w0 w l pd pk S f) (n : Nat) (hn : n ≤ S.its.length) (hG : Gl w) :
    Calls Tryz.prog 68 #[.pointer (some ⟨l, 0, none⟩), .int .i64 n] w fun e w' => ∃ ao m c, e = .returned (.slice ao m c) ∧ Acc w ((S.its.take n).map tleafP) (.slice ao m c) w' := by
  obtain ⟨j, s, q, vs, pv, hx⟩ := h
  obtain ⟨v2, b2, hSc, hRU, -⟩ := hx.sh.ex
  have hbs := hx.sh.bs
  have hfew := hx.few
  obtain ⟨a2, c2, rfl⟩ := hRU.shape
  obtain ⟨r1, r2, r3⟩ := hRU.room
  obtain ⟨i0, hi0, hz0, hz1, hz2⟩ := info_parts Tryz.infoSl
  have HAt := hide hx.at_
  have HSc := hide hSc
  have HRU := hide hRU
  have HBs := hide hbs
  have HG := hide hG
  have hrun := fun wr => run_ufirst a2 S.its.length c2 n wr (by omega) r3
  have hnf : n ≤ 256 := by omega
  have HN := hide hn
  clear hx hSc hRU hbs hG r1 r2 r3 hn hfew
  go_enter Tryz.func68, Tryz.ntmps68
  go_wp2_with (at_make; refine wpList_make_own _ rfl _ _ 33 rfl w.heap.size 22 i0 (.slice none 0 0) 1 Tryz.underlying33 hi0 hz0 hz1 .i64 .i64 _ n rfl rfl rfl (by rw [hz2]; omega) (by unfold maxLen; omega) (Nat.le_refl _) ?_; intro w1 o1 g1; refine Hid.out ?_)
  have K1 : Kp [] w w1 := (Kp.refl [] w).grown g1 (by intro k hk; cases hk)
  have hc1 := (HAt.out.kept K1 (by simp)).c1
  have hc0 : w1.cell? ⟨s, 0, none⟩ = some (.slice a2 S.its.length c2) := K1.cell HSc.out.c0 (by simp)
  have HA : Hid (Acc w ((S.its.take 0).map tleafP) (.slice (some ⟨w.heap.size, 0, none⟩) 0 n) w1) := ⟨[], ⟨o1, by simp⟩, by simp, K1⟩
  have hr1 := hrun w1
  clear o1 g1 K1 hrun
  refine hide ?_
  go_wp2_with fail
  go_loopw [5, 20] (fun o i wr => ∃ k : Nat, k ≤ n ∧ i = .int .i64 k ∧ (∃ ao m c, o = .slice ao m c) ∧ Acc w ((S.its.take k).map tleafP) o wr) (fun _ i _ => n - (intOf i).toNat)
  case atStart => exact ⟨0, by omega, rfl, ⟨_, _, _, rfl⟩, HA.out⟩
  case round =>
    obtain ⟨k, hk, rfl, ⟨ao, m, c, rfl⟩, A⟩ := hrel
    have HAk := hide A
    clear A HA hr1 hc1 hc0
    by_cases hlt : k < n
    · have hlt' : (k : Int) < (n : Int) := by omega
      have hkl : k < S.its.length := by have := HN.out; omega
      obtain ⟨g, rfl, hc⟩ := (HRU.out.kept HAk.out.kp (by simp)).at k hkl
      obtain ⟨hBx, hlx⟩ := HBs.out S.its[k] (List.getElem_mem hkl)
      have htk : S.its.take (k + 1) = S.its.take k ++ [S.its[k]] := List.take_succ_eq_append_getElem hkl
      obtain ⟨x, hxx⟩ : ∃ x, x = S.its[k] := ⟨_, rfl⟩
      rw [← hxx] at hc hBx hlx htk
      obtain ⟨c5, w5, hcv, S5, K5⟩ := conv_big (strOfNums x) wr (by rw [str_size]; omega)
      rw [nums_str x hBx] at S5
      have HLf := hide (tleaf_any _ x (tleafP x) rfl w5 S5 hBx (by omega) (HG.out.kept (HAk.out.kp.trans K5) (by simp)))
      have HK5 := hide K5
      have HTK := hide htk
      have hal : ((S.its.take k).map tleafP).length ≤ 256 := by rw [List.length_map, List.length_take]; omega
      clear S5 K5 htk hxx
      go_wp2_with fail
      refine HLf.out.mono ?_
      rintro ee w6 ⟨a6, m6, c6, rfl, R6, K6⟩
      have HR6 := hide (row_new R6 HK5.out)
      have HK6 := hide (HK5.out.trans K6)
      clear HLf R6 K6 hcv hc
      go_wp2_with (at_builtin; refine wpList_acc rfl (.tmp 24) (.tmp 28) rfl (.slice ao m c) _ rfl HAk.out (by omega) _ _ HK6.out HR6.out (sha_bs _) rfl ?_; intro a7 m7 c7 w7 A7)
      go_roundw
      case rel => exact ⟨k + 1, by omega, by go_num, ⟨a7, m7, c7, rfl⟩, by rw [HTK.out, List.map_append]; exact A7⟩
      case measure => simp [intOf]; omega
    · have hkn : k = n := by omega
      have hnlt : ¬ (k : Int) < (n : Int) := by omega
      have HAn : Hid (Acc w ((S.its.take n).map tleafP) (.slice ao m c) wr) := by rw [← hkn]; exact HAk.out
      clear hkn HAk
      go_wp2_with fail
      go_ret
      exact ⟨ao, m, c, rfl, by rw [← List.map_take]; exact HAn.out⟩
theorem uroot_any (h : Lg w0 w l pd pk S f) (r : List Int) (hr : r = rtU S.its) (hG : Gl w) :
    Calls Tryz.prog 23 #[.pointer (some ⟨l, 0, none⟩)] w fun e w' => ∃ ao m c, e = .returned (.slice ao m c) ∧ Row w' w.heap.size (.slice ao m c) r ∧ Kp [] w w' := by
  have HZ := hide (usize_any h _ rfl)
  have HLv := hide (uleaves_any h S.its.length (Nat.le_refl _) hG)
  have hfew := h.few
  have HG := hide hG
  have HR := hide hr
  rw [List.take_length] at HLv
  obtain ⟨n, hn⟩ : ∃ n, n = S.its.length := ⟨_, rfl⟩
  rw [← hn] at HZ HLv hfew
  have HN := hide hn
  clear h hG hr hn
  go_enter Tryz.func23, Tryz.ntmps23
  go_wp2_with fail
  refine HZ.out.mono ?_
  rintro ee w1 ⟨rfl, hw⟩
  subst w1
  clear HZ
  go_wp2_with fail
  refine HLv.out.mono ?_
  rintro ee w1 ⟨ao, m, c, rfl, A1⟩
  have HRt := hide (troot_any n _ (S.its.map tleafP) r w1 HR.out (by rw [List.length_map]; exact HN.out.symm) (by omega) (A1.lcm (by rw [List.length_map, ← HN.out]; omega)) (fun x hx => by
    obtain ⟨y, _, rfl⟩ := List.mem_map.1 hx
    have := sha_len (0 :: y); unfold tleafP; omega) (HG.out.kept A1.kp (by simp)))
  have HK1 := hide A1.kp
  clear HLv A1
  go_wp2_with fail
  refine HRt.out.mono ?_
  rintro ee w2 ⟨a2, m2, c2, rfl, R2, K2⟩
  have HR2 := hide (row_new R2 HK1.out)
  have HK2 := hide (HK1.out.trans K2)
  clear HRt R2 K2
  go_wp2_with fail
  go_ret
  exact ⟨a2, m2, c2, rfl, HR2.out, HK2.out⟩
theorem ukeys_any (h : Lg w0 w l pd pk S f) (x : Int) (hx : x = 16 - (S.n : Int)) : Calls Tryz.prog 35 #[.pointer (some ⟨l, 0, none⟩)] w fun e w' => e = .returned (.int .i64 x) ∧ w' = w := by
  obtain ⟨j, s, q, vs, pv, h⟩ := h
  have hc := h.at_.c2
  have HZ := hide (left_keys h.bf.bx h.nk x hx)
  clear h hx
  go_enter Tryz.func35, Tryz.ntmps35
  go_wp2_with fail
  refine HZ.out.mono ?_
  rintro ee w1 ⟨rfl, hw⟩
  subst w1
  clear HZ
  go_wp2_with fail
  go_ret
  exact ⟨rfl, rfl⟩
theorem upublic_any (h : Lg w0 w l pd pk S f) (r : List Int) (hr : r = topP S.seed) (hG : Gl w) :
    Calls Tryz.prog 39 #[.pointer (some ⟨l, 0, none⟩)] w fun e w' => ∃ ao m c, e = .returned (.slice ao m c) ∧ Sl w' (.slice ao m c) r ∧ Kp [] w w' := by
  obtain ⟨j, s, q, vs, pv, h⟩ := h
  have hc := h.at_.c3
  have HZ := hide (spublic_any vs S.seed r hr w h.sd h.sb h.sl hG)
  obtain ⟨av, cv, hvs, -⟩ := h.sd
  obtain ⟨nv, hnv⟩ : ∃ n, n = S.seed.length := ⟨_, rfl⟩
  rw [← hnv] at hvs
  rw [hvs] at hc HZ
  clear h hr hG hvs hnv
  go_enter Tryz.func39, Tryz.ntmps39
  go_wp2_with fail
  refine HZ.out.mono ?_
  rintro ee w1 ⟨a1, m1, c1, rfl, S1, K1⟩
  have HS1 := hide S1
  have HK1 := hide K1
  clear HZ S1 K1
  go_wp2_with fail
  go_ret
  exact ⟨a1, m1, c1, rfl, HS1.out, HK1.out⟩
theorem uentry_no (h : Lg w0 w l pd pk S f) (i : Int) (hi : ¬ (0 ≤ i ∧ i < (S.its.length : Int))) : Calls Tryz.prog 36 #[.pointer (some ⟨l, 0, none⟩), .int .i64 i] w fun e w' => e = .returned (.tuple #[.slice none 0 0, .bool false]) ∧ w' = w := by
  have HZ := hide (usize_any h _ rfl)
  obtain ⟨n, hn⟩ : ∃ n, n = S.its.length := ⟨_, rfl⟩
  rw [← hn] at HZ hi
  clear h hn
  by_cases h0 : i < 0
  · have hd : decide (i < 0) = true := decide_eq_true h0
    clear hi HZ
    go_enter Tryz.func36, Tryz.ntmps36
    go_wp2_with fail
    go_ret2
    exact ⟨rfl, rfl⟩
  · have hd : decide (i < 0) = false := decide_eq_false h0
    have h1 : (n : Int) ≤ i := by omega
    have hd1 : decide ((n : Int) ≤ i) = true := decide_eq_true h1
    clear hi
    go_enter Tryz.func36, Tryz.ntmps36
    go_wp2_with fail
    refine HZ.out.mono ?_
    rintro ee w1 ⟨rfl, hw⟩
    subst w1
    clear HZ
    go_wp2_with fail
    go_ret2
    exact ⟨rfl, rfl⟩
set_option maxRecDepth 100000 in
/-- the first n cells of a block may be written. -/
def UFz (w : World) (g n : Nat) : Prop := ∀ k, k < n → w.frozen? ⟨g, k, none⟩ = false
theorem conv_big2 (S : ByteArray) (w : World) (hS : S.size ≤ 9223372036854775807) : ∃ c w', (convert 9 22 (.string S)).run Tryz.prog w = .ok (.slice (some ⟨w.heap.size, 0, none⟩) S.size c) w' ∧ Sl w' (.slice (some ⟨w.heap.size, 0, none⟩) S.size c) (nums S) ∧ Kp [] w w' ∧ UFz w' w.heap.size S.size := by
  obtain ⟨c, w', h1, h2, h3⟩ := conv_big S w hS
  have h4 := Lib.run_convert_string_bytes (P := Tryz.prog) w 9 22 5 S Tryz.underlying9 Tryz.underlying22 Tryz.underlying5
  rw [h1] at h4
  injection h4 with h5 h6
  refine ⟨c, w', h1, h2, h3, fun k hk => ?_⟩
  subst h6
  have hsz : k < (Lib.bytesCells w 5 S).size := by
    unfold Lib.bytesCells
    have e : S.data.size = S.size := rfl
    simp
    omega
  unfold World.frozen?
  simp only [Lib.bytesWorld_at_new]
  simp; omega
set_option maxRecDepth 100000 in
theorem uentry_ok (h : Lg w0 w l pd pk S f) (i : Nat) (hi : i < S.its.length) (x : List Int) (hx : x = S.its[i]) : Calls Tryz.prog 36 #[.pointer (some ⟨l, 0, none⟩), .int .i64 i] w fun e w' => ∃ c, e = .returned (.tuple #[.slice (some ⟨w.heap.size, 0, none⟩) x.length c, .bool true]) ∧ Sl w' (.slice (some ⟨w.heap.size, 0, none⟩) x.length c) x ∧ Kp [] w w' ∧ UFz w' w.heap.size x.length := by
  have HZ := hide (usize_any h _ rfl)
  obtain ⟨j, s, q, vs, pv, hg⟩ := h
  obtain ⟨v2, b2, hSc, hRU, -⟩ := hg.sh.ex
  obtain ⟨a2, c2, rfl⟩ := hRU.shape
  have hc1 := hg.at_.c1
  have hc0 := hSc.c0
  obtain ⟨g, rfl, hc⟩ := hRU.at i hi
  obtain ⟨hBx, hlx⟩ := hg.sh.bs _ (List.getElem_mem hi)
  rw [← hx] at hc hBx hlx
  obtain ⟨c5, w5, hcv, S5, K5, Z5⟩ := conv_big2 (strOfNums x) w (by rw [str_size]; omega)
  rw [nums_str x hBx] at S5
  rw [str_size] at hcv S5 Z5
  have HS5 := hide S5
  have HK5 := hide K5
  have HZ5 := hide Z5
  obtain ⟨n, hn⟩ : ∃ n, n = S.its.length := ⟨_, rfl⟩
  rw [← hn] at HZ hi hc0
  have h0 : ¬ (i : Int) < 0 := by omega
  have hd : decide ((i : Int) < 0) = false := decide_eq_false h0
  have h1 : ¬ (n : Int) ≤ (i : Int) := by omega
  have h2 : (i : Int) < (n : Int) := by omega
  have hd1 : decide ((n : Int) ≤ (i : Int)) = false := decide_eq_false h1
  obtain ⟨nx, hnx⟩ : ∃ n, n = x.length := ⟨_, rfl⟩
  rw [← hnx] at hcv HS5 HZ5 ⊢
  clear hn hg hSc hRU S5 K5 Z5 hx hnx
  go_enter Tryz.func36, Tryz.ntmps36
  go_wp2_with fail
  refine HZ.out.mono ?_
  rintro ee w1 ⟨rfl, hw⟩
  subst w1
  clear HZ
  go_wp2_with fail
  go_ret2
  exact ⟨c5, rfl, HS5.out, HK5.out, HZ5.out⟩
end
end Go.Proofs.YtillhpgdlmeajaaGreatDoor
