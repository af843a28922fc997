/-
  Chapter 15 as plain functions: items each once, their numbers, a batch as a record, what a journal's records hold.
-/
import Derived.Test.YteabdojjllfcpaaGreatQC14
import Derived.Test.YteabdojjllfcpaaGreatQOFrontKeeps3
import Derived.Test.YteabdojjllfcpaaGreatQOFrontKeeps1
namespace Go.Proofs.YteabdojjllfcpaaGreat
open Go.RowKit
open Go.Proofs
theorem itsU_bat (l : List (List Int)) (h : ∀ x ∈ l, x.length ≤ 65535) : itsU l.length (l.map itmU).flatten = some l := by
  induction l with
  | nil => rfl
  | cons x l ih =>
    have e := tkb_front x ((l.map itmU).flatten) 65535 (h x (by simp)) (by omega)
    have e2 : (((x :: l).map itmU).flatten) = (be2 x.length ++ x) ++ (l.map itmU).flatten := rfl
    rw [e2]
    show itsU (l.length + 1) _ = _
    unfold itsU
    rw [show ((65535 : Nat) : Int) = 65535 from rfl] at e
    rw [e, if_neg (by simp)]
    simp only [ih (fun y hy => h y (by simp [hy])), Option.map_some]
theorem unlU_bat {l : List (List Int)} (h : ∀ x ∈ l, x.length ≤ 65535) (h0 : l ≠ []) (hl : l.length ≤ 4294967295) : unlU (batU l) = some l := by
  have e1 : (batU l).take 4 = bq l.length := by unfold batU; rw [List.take_left' (bq_len _)]
  have e2 : (batU l).drop 4 = (l.map itmU).flatten := by unfold batU; rw [List.drop_left' (bq_len _)]
  have e3 : (batU l).length = 4 + ((l.map itmU).flatten).length := by unfold batU; rw [List.length_append, bq_len]
  have e4 : val (bq (l.length : Int)) = l.length := val_bq (by omega) (by omega)
  have h1 : 0 < l.length := List.length_pos_iff.2 h0
  unfold unlU
  rw [if_neg (by omega), e1, e2, e4, if_neg (by simp; omega)]
  exact itsU_bat l h
theorem gatU_add {rs l xs : List (List Int)} (h : gatU [] rs = some l) (hn : (l ++ xs).Nodup) (h0 : xs ≠ []) (hs : ∀ x ∈ xs, x.length ≤ 65535) (hl : xs.length ≤ 4294967295) : gatU [] (rs ++ [batU xs]) = some (l ++ xs) := by
  rw [gatU_snoc, h]
  simp only [Option.bind_some, gatU]
  rw [unlU_bat hs h0 hl]
  simp only []
  rw [if_pos hn]
end Go.Proofs.YteabdojjllfcpaaGreat

/-
  The contracts of package disk's small functions: count, told, keep, New, Size, Synced, Down, Arm, Grow, Bytes.
-/
namespace Go.Proofs.YteabdojjllfcpaaGreat
open Go.RowKit
open Go.Proofs
theorem Dk.Fit.arms {d : Dk} (h : d.Fit) (n : Int) (hl : -9223372036854775808 ≤ n) (hh : n ≤ 9223372036854775807) : (d.armed n).Fit := by
  unfold Dk.armed
  split
  · exact h
  · rename_i hd
    exact ⟨⟨h.ok.syn, h.ok.fits, h.ok.lim⟩, hl, hh, fun e => absurd e hd, h.bytes⟩
set_option maxHeartbeats 1000000 in
theorem arm_any (p : Nat) (v : Value) (d : Dk) (n : Int) (base : Nat) (w : World) (h : DskP w base p v d) (hh : n ≤ 9223372036854775807) :
    Calls Tryz.prog 22 #[.pointer (some ⟨p, 0, none⟩), .int .i64 n] w fun e w' => e = .returned (.tuple #[]) ∧ DskP w' base p v (d.armed (max n 0)) ∧ DSt p w v w' v := by
  have hc4 := h.here.c4
  have hc3 := h.here.c3
  have f3 := h.here.f 3
  have hft := h.fit.arms (max n 0) (by omega) (by omega)
  cases hd : d.down
  · rw [hd] at hc4
    obtain ⟨m, hm⟩ : ∃ m, m = max n 0 := ⟨_, rfl⟩
    have FIN : Hid (DskP (w.setCell ⟨p, 3, none⟩ (.int .i64 m)) base p v (d.armed m)) := by
      have e : d.armed m = { d with arm := m } := by unfold Dk.armed; rw [hd]; rfl
      rw [← hm, e] at hft
      rw [e]
      exact h.poke (kp_set w p 3 _) (h.here.s3 _) rfl hft
    by_cases h0 : n < 0
    · have hm0 : m = 0 := by omega
      rw [← hm]
      rw [hm0] at FIN ⊢
      clear h hd hft hm hm0
      go_enter Tryz.func22, Tryz.ntmps22
      go_wp2_with fail
      go_end0
      exact ⟨rfl, FIN.out, DSt.one v (kp_set _ _ _ _)⟩
    · have hm0 : m = n := by omega
      have h0' : 0 ≤ n := by omega
      rw [← hm]
      rw [hm0] at FIN ⊢
      clear h hd hft hm hm0
      go_enter Tryz.func22, Tryz.ntmps22
      go_wp2_with fail
      go_end0
      exact ⟨rfl, FIN.out, DSt.one v (kp_set _ _ _ _)⟩
  · rw [hd] at hc4
    have FIN : Hid (DskP w base p v (d.armed (max n 0))) := by rw [Dk.armed_down hd]; exact h
    clear h hd hft
    go_enter Tryz.func22, Tryz.ntmps22
    go_wp2_with fail
    go_end0
    exact ⟨rfl, FIN.out, DSt.refl _ _ _⟩
end Go.Proofs.YteabdojjllfcpaaGreat

/-
  The contracts of package disk: Bytes, keep, Append, Sync, Cut, Crash.
-/
namespace Go.Proofs.YteabdojjllfcpaaGreat
open Go.RowKit
open Go.Proofs
theorem keep_at (p : Nat) (ao : Option Addr) (m c : Nat) (d : Dk) (n : Nat) (base : Nat) (w : World) (h : DskP w base p (.slice ao m c) d) (hn : n ≤ d.bs.length) (x : Int) (hx : x = (n : Int)) :
    Calls Tryz.prog 62 #[.pointer (some ⟨p, 0, none⟩), .int .i64 x] w fun e w' => e = .returned (.tuple #[]) ∧ DskP w' base p (.slice ao n c) { d with bs := d.bs.take n, syn := n } ∧ DSt p w (.slice ao m c) w' (.slice ao n c) := by
  subst hx
  exact keep_any p ao m c d n base w h hn
theorem Dk.crash_kept {d : Dk} (h : d.Ok) (keep : Int) : d.crash keep = { d with bs := d.bs.take (d.left keep), syn := d.left keep, arm := 0, down := false } := by
  have := Dk.left_le h keep
  unfold Dk.crash
  rw [show min (d.left keep) d.bs.length = d.left keep from by omega]
theorem Dk.Fit.crashed {d : Dk} (h : d.Fit) (keep : Int) : (d.crash keep).Fit :=
  ⟨Dk.crash_ok h.ok keep, by simp [Dk.crash], by simp [Dk.crash], fun _ => rfl, fun b hb => h.bytes b (List.mem_of_mem_take hb)⟩
set_option maxHeartbeats 2000000 in
theorem dcrash_any (p : Nat) (v : Value) (d : Dk) (keep : Int) (base : Nat) (w : World) (h : DskP w base p v d) :
    Calls Tryz.prog 25 #[.pointer (some ⟨p, 0, none⟩), .int .i64 keep] w fun e w' => e = .returned (.tuple #[]) ∧ ∃ v', DskP w' base p v' (d.crash keep) ∧ DSt p w v w' v' := by
  have hc0 := h.here.c0
  have hc1 := h.here.c1
  have ok1 := h.fit.ok.syn
  have ok2 := h.fit.ok.fits
  have ok3 := h.fit.ok.lim
  have hcr := Dk.crash_kept h.fit.ok keep
  have hle := Dk.left_le h.fit.ok keep
  obtain ⟨av, cv, ev⟩ := h.shape
  obtain ⟨k, hk⟩ : ∃ k, k = d.bs.length := ⟨_, rfl⟩
  obtain ⟨s, hs⟩ : ∃ s, s = d.syn := ⟨_, rfl⟩
  rw [← hk] at ev ok1 ok2
  rw [← hs] at hc1 ok1
  subst ev
  have hk2 : (k : Int) ≤ 1048576 := by omega
  have hsk : (s : Int) ≤ (k : Int) := by omega
  obtain ⟨j, hj⟩ : ∃ j, j = d.left keep := ⟨_, rfl⟩
  have hjv : (j : Int) = s + min (max keep 0) ((k : Int) - s) := by
    rw [hj]; unfold Dk.left; rw [← hk, ← hs]; omega
  rw [← hj] at hcr hle
  have HK := hide (fun w' (h' : DskP w' base p (.slice av k cv) d) (x : Int) (hx : x = (j : Int)) => keep_at p av k cv d j base w' h' hle x hx)
  have HF := hide (h.fit.crashed keep)
  have HCR := hide hcr
  have HD := hide (h.keptN (kp_drew w))
  have y1 := HD.out.here.c1
  rw [← hs] at y1
  have T1 : Hid (DSt p w (.slice av k cv) w.drew (.slice av k cv)) := DSt.mid _ (kp_drew w)
  clear h hcr hj hk hs hle ok1 ok2 ok3
  have h3 : keep < 0 ∨ (¬ keep < 0 ∧ keep ≤ (k : Int) - s) ∨ (¬ keep < 0 ∧ ¬ keep ≤ (k : Int) - s) := by omega
  rcases h3 with h3 | ⟨h3, h4⟩ | ⟨h3, h4⟩
  all_goals
    go_enter Tryz.func25, Tryz.ntmps25
    go_wp2_with fail
    refine region_read Tryz.mixed (by kernel_rfl) ?_
    repeat (first | go_big_quiet_skip | (go_big_quiet_want; go_big_quiet_op; go_big_quiet_on))
    refine wpQuiet_nil ?_
    generalize w.drew = w1 at *
    go_wp2_with (first
      | (go_at_call 62; go_loud (refine (HK.out w1 HD.out _ (by first | omega | (unfold wrap64; omega))).mono ?_); rintro e w2 ⟨rfl, D2, T2⟩; clear HK; have g2 := D2.here; unfold Fv at g2; have HD2 := hide D2; have HT2 := hide T2; clear D2 T2)
      | (refine wpList_store_flat rfl 106 (.tmp 29) (.tmp 27) rfl p 3 rfl _ _ [.int .i64 0, .bool false] g2 rfl (by simp) (by kernel_rfl) (by simp [Value.oneCell']) #[.slice av j cv, .int .i64 j, .int .i64 d.lim, .int .i64 0, .bool false] (by simp [putAll]) ?_; intro w3 g3 k3))
    go_end0
    rw [HCR.out]
    have hf := HF.out
    rw [HCR.out] at hf
    exact ⟨rfl, _, HD2.out.poke k3 g3 rfl hf, (T1.out.trans HT2.out).trans (DSt.one _ k3)⟩
end Go.Proofs.YteabdojjllfcpaaGreat

/-
  A new disk and its steps, as the law package takes them; Cut of the law package by its value; known.
-/
namespace Go.Proofs.YteabdojjllfcpaaGreat
open Go.RowKit
open Go.Proofs
namespace Dk
theorem armed_arm {d : Dk} (h0 : 0 ≤ d.arm) (n : Int) : 0 ≤ (d.armed (max n 0)).arm := by
  unfold armed
  split
  · exact h0
  · show 0 ≤ max n 0; omega
end Dk
section
variable {w0 w w' : World} {p : Nat} {v v' : Value} {d d' : Dk}
theorem nw_arm (h : Nw w0 w p v d) (n : Int) (hh : n ≤ 9223372036854775807) (he : d.armed (max n 0) = d') : Calls Tryz.prog 22 #[.pointer (some ⟨p, 0, none⟩), .int .i64 n] w fun e w' => e = .returned (.tuple #[]) ∧ Nw w0 w' p v d' ∧ DSt p w v w' v := by
  refine (arm_any p v d n w0.heap.size w h.dk hh).mono ?_
  rintro e w' ⟨rfl, D, T⟩
  have ha := Dk.armed_arm h.arm n
  rw [he] at D ha
  exact ⟨rfl, h.step D T ha, T⟩
theorem nw_crash (h : Nw w0 w p v d) (n : Int) (he : d.crash n = d') : Calls Tryz.prog 25 #[.pointer (some ⟨p, 0, none⟩), .int .i64 n] w fun e w' => e = .returned (.tuple #[]) ∧ ∃ v', Nw w0 w' p v' d' ∧ DSt p w v w' v' := by
  refine (dcrash_any p v d n w0.heap.size w h.dk).mono ?_
  rintro e w' ⟨rfl, v', D, T⟩
  rw [he] at D
  exact ⟨rfl, v', h.step D T (by rw [← he]; exact Int.le_refl 0), T⟩
end
end Go.Proofs.YteabdojjllfcpaaGreat
