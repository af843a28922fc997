/-
  A ledger's disks, asked while it is open; two disks whatever they are.
-/
import Derived.Test.YteabdojjllfcpaaGreatQOFrontNumbers7
import Derived.Test.YteabdojjllfcpaaGreatQOFrontNumbers5
import Derived.Test.YteabdojjllfcpaaGreatQC26
namespace Go.Proofs.YteabdojjllfcpaaGreat
open Go.RowKit
open Go.Proofs
set_option linter.unusedVariables false
section
variable {w0 w : World} {l pd pk : Nat} {S : LS} {f : Fps}
theorem ds_crashD {dd dk d' : Dk} (h : Ds w0 w pd pk dd dk f) (x : Int) (he : dd.crash x = d') : Calls Tryz.prog 25 #[.pointer (some ⟨pd, 0, none⟩), .int .i64 x] w fun e w' => e = .returned (.tuple #[]) ∧ ∃ f', Ds w0 w' pd pk d' dk f' ∧ Stp f.tot w w' f'.tot := by
  obtain ⟨v, N, hv⟩ := h.d
  refine (nw_crash N x he).mono ?_
  rintro e w' ⟨rfl, v', N', T⟩
  obtain ⟨F', D', T', hF⟩ := Dx.stepD hv N' T
  have o := h.ok.upd T'
  obtain ⟨U, hU, k⟩ := T'.kp
  refine ⟨rfl, f.upd 5 F', ⟨o, by rw [upd_eq]; exact D', ?_⟩, T'.one⟩
  rw [upd_ne (by decide)]
  exact h.k.kept k o.kp (h.ok.apart (a := 5) (b := 6) (by decide) hU)
theorem ds_crashK {dd dk d' : Dk} (h : Ds w0 w pd pk dd dk f) (x : Int) (he : dk.crash x = d') : Calls Tryz.prog 25 #[.pointer (some ⟨pk, 0, none⟩), .int .i64 x] w fun e w' => e = .returned (.tuple #[]) ∧ ∃ f', Ds w0 w' pd pk dd d' f' ∧ Stp f.tot w w' f'.tot := by
  obtain ⟨v, N, hv⟩ := h.k
  refine (nw_crash N x he).mono ?_
  rintro e w' ⟨rfl, v', N', T⟩
  obtain ⟨F', D', T', hF⟩ := Dx.stepD hv N' T
  have o := h.ok.upd T'
  obtain ⟨U, hU, k⟩ := T'.kp
  refine ⟨rfl, f.upd 6 F', ⟨o, ?_, by rw [upd_eq]; exact D'⟩, T'.one⟩
  rw [upd_ne (by decide)]
  exact h.d.kept k o.kp (h.ok.apart (a := 6) (b := 5) (by decide) hU)
end
end Go.Proofs.YteabdojjllfcpaaGreat

/-
  Arguments of the laws of ledger: slices of slices of numbers; rows of slices that lie aside.
-/
namespace Go.Proofs.YteabdojjllfcpaaGreat
open Go.RowKit
open Go.Proofs
open Go.Deep Go.ChangeShapes Go.WideShapes
set_option linter.unusedVariables false
section
variable {w0 w w' : World} {F F' : Nat → Prop} {v v' : Value} {la : List (Value × List Int)}
end
theorem sl_lt {w : World} {v : Value} {bs : List Int} {k : Nat} (h : Sl w v bs) (hb : bs ≠ []) (hk : v.ownBlock = some k) : k < w.heap.size := by
  obtain ⟨ao, c, rfl, _, _, _, h4⟩ := h
  have hpos : 0 < bs.length := List.length_pos_iff.2 hb
  cases ao with
  | none => cases hk
  | some a =>
    have hc := h4 a rfl 0 (.int .u8 bs[0]) (by simp [List.getElem?_eq_getElem hpos])
    have := World.block_lt_of_cell? _ _ hc
    rw [add_block] at this
    have e : a.block = k := by simpa [Value.ownBlock] using hk
    omega
/-- where x was last found among the first of l. -/
def fdU (l : List (List Int)) (x : List Int) : Int := if x ∈ l then (l.idxOf x : Int) else -1
end Go.Proofs.YteabdojjllfcpaaGreat

/-
  The contract of package front: Open.
-/
namespace Go.Proofs.YteabdojjllfcpaaGreat
open Go.RowKit
open Go.Proofs
set_option linter.unusedVariables false
theorem fopen_arg (pd r s t : Value) (w : World) : Calls Tryz.prog 12 #[pd, .pointer none, r, s, t] w fun e w' => e = .returned (.tuple #[.pointer none, .int .i64 1]) ∧ w' = w := by
  go_enter Tryz.func12, Tryz.ntmps12
  go_wp2_with fail
  go_ret2
  exact ⟨rfl, rfl⟩
theorem fopen_room (pd : Value) (l : Nat) (r s t : Int) (w : World) (hn : r < 1 ∨ 16 < r ∨ s < 1 ∨ 8 < s ∨ t < 0 ∨ 1000 < t) : Calls Tryz.prog 12 #[pd, .pointer (some ⟨l, 0, none⟩), .int .i64 r, .int .i64 s, .int .i64 t] w fun e w' => e = .returned (.tuple #[.pointer none, .int .i64 1]) ∧ w' = w := by
  have HN := hide (bnew_no r s t w hn)
  clear hn
  go_enter Tryz.func12, Tryz.ntmps12
  go_wp2_with fail
  refine HN.out.mono ?_
  rintro ee w1 ⟨rfl, hw⟩
  subst w1
  clear HN
  go_wp2_with fail
  go_ret2
  exact ⟨rfl, rfl⟩
theorem fopen_nil (l : Nat) (r s t : Int) (w : World) (h1 : 1 ≤ r) (h2 : r ≤ 16) (h3 : 1 ≤ s) (h4 : s ≤ 8) (h5 : 0 ≤ t) (h6 : t ≤ 1000) : Calls Tryz.prog 12 #[.pointer none, .pointer (some ⟨l, 0, none⟩), .int .i64 r, .int .i64 s, .int .i64 t] w fun e w' => e = .returned (.tuple #[.pointer none, .int .i64 1]) ∧ Kp [] w w' := by
  have HN := hide (qf_new r s t w h1 h2 h3 h4 h5 h6)
  clear h1 h2 h3 h4 h5 h6
  go_enter Tryz.func12, Tryz.ntmps12
  go_wp2_with fail
  refine HN.out.mono ?_
  rintro ee w1 ⟨q, rfl, K1, -, -, -⟩
  have HK1 := hide K1
  have HO := hide (open_nil w1)
  clear HN K1
  go_wp2_with fail
  refine HO.out.mono ?_
  rintro ee w2 ⟨rfl, hw⟩
  subst w2
  clear HO
  go_wp2_with fail
  go_ret2
  exact ⟨rfl, HK1.out⟩
section
variable {w0 w : World} {l pd pl pk : Nat} {d d' : Dk} {L : LS} {f : Fps} {F : Nat → Prop} {r s t : Int}
set_option maxRecDepth 100000 in
set_option maxHeartbeats 4000000 in
theorem fopen_bad (hD : Dx w0 w pd d F) (dn : d.down = false) (da : d.arm ≤ 0) {bd : List Int} (hbd : d.bs = bd) {rs : List (List Int)} {at2 : Nat} (hop : opnP bd = (rs, at2, true)) (hok : rs.all okM = false) (hrB : ∀ r ∈ rs, Bs r ∧ r.length ≤ 1000) (hrn : rs.length ≤ 1000) (hFr : ∀ i, F i → w0.heap.size ≤ i ∧ i < w.heap.size) (h1 : 1 ≤ r) (h2 : r ≤ 16) (h3 : 1 ≤ s) (h4 : s ≤ 8) (h5 : 0 ≤ t) (h6 : t ≤ 1000) :
    Calls Tryz.prog 12 #[.pointer (some ⟨pd, 0, none⟩), .pointer (some ⟨l, 0, none⟩), .int .i64 r, .int .i64 s, .int .i64 t] w fun e w' => e = .returned (.tuple #[.pointer none, .int .i64 14]) ∧ ∃ S, (∀ i ∈ S, F i) ∧ Kp S w w' := by
  obtain ⟨v, hN, hF⟩ := hD
  have HN := hide (qf_new r s t w h1 h2 h3 h4 h5 h6)
  have HD := hide hN
  have HF := hide hF
  have HOp := hide hop
  have HB := hide hrB
  have Hrn := hide hrn
  have HOk := hide hok
  have Hbd := hide hbd
  have Hdn := hide dn
  have Hda := hide da
  clear h1 h2 h3 h4 h5 h6 hN hF hop hrB hrn hok hbd dn da
  go_enter Tryz.func12, Tryz.ntmps12
  go_wp2_with fail
  refine HN.out.mono ?_
  rintro ee w1 ⟨q, rfl, K1, hq1, hq2, Q1⟩
  have HK1 := hide K1
  have HO := hide (open_at (HD.out.on K1) Hdn.out Hda.out bd Hbd.out)
  clear HN K1 hq1 hq2 Q1
  go_wp2_with fail
  refine HO.out.mono ?_
  rw [HOp.out]
  rintro ee w2 (⟨ht, j, v1, al, m, cl, lj, rfl, J1, hj1, T1, P1, hl1, hm1⟩ | ⟨hf, -⟩)
  · have hlj : lj.length ≤ 1000 := by have h0 : lj.map (·.2) = rs := hl1; have h1 := congrArg List.length h0; rw [List.length_map] at h1; have := Hrn.out; omega
    have HT := hide (ftexts_any (.slice al m cl) lj rs hl1 w2 (P1.parts.lists hlj) (fun r hr => (HB.out r hr).1) (fun r hr => by have := (HB.out r hr).2; omega) (by have := Hrn.out; omega) false HOk.out.symm)
    have HK2 : Hid (Kp (dfp pd v) w w2) := (HK1.out.mono (by simp)).trans T1.1
    clear HO J1 hj1 T1 P1 hl1 hm1 ht
    go_wp2_with fail
    refine HT.out.mono ?_
    rintro ee w3 ⟨u, rfl, K3, -⟩
    have HK3 : Hid (Kp (dfp pd v) w w3) := HK2.out.trans (K3.mono (by simp))
    clear HT K3
    go_wp2_with fail
    go_ret2
    exact ⟨rfl, dfp pd v, HF.out, HK3.out⟩
  · cases hf
end
end Go.Proofs.YteabdojjllfcpaaGreat

/-
  The contracts of package front: receiptOf, Receipts, Waits, Receipt.
-/
namespace Go.Proofs.YteabdojjllfcpaaGreat
open Go.RowKit
open Go.Proofs
set_option linter.unusedVariables false
section
variable {w0 w : World} {p l pd : Nat} {S : FS} {g : Fps}
theorem fwaits_any (h : Fg w0 w p l pd S g) (n : Nat) (hn : n = S.ms.length) : Calls Tryz.prog 16 #[.pointer (some ⟨p, 0, none⟩)] w fun e w' => e = .returned (.int .i64 (n : Nat)) ∧ w' = w := by
  obtain ⟨j, q, vr, hx⟩ := h
  have hc := hx.at_.c2
  have HL := hide (qf_len hx.qf n hn)
  clear hx hn
  go_enter Tryz.func16, Tryz.ntmps16
  go_wp2_with fail
  refine HL.out.mono ?_
  rintro ee w1 ⟨rfl, hw⟩
  subst w1
  clear HL
  go_wp2_with fail
  go_ret
  exact ⟨rfl, rfl⟩
theorem frec_no (h : Fg w0 w p l pd S g) (i : Int) (hi : ¬ (0 ≤ i ∧ i < (S.rc.length : Int))) : Calls Tryz.prog 26 #[.pointer (some ⟨p, 0, none⟩), .int .i64 i] w fun e w' => e = .returned (.tuple #[.slice none 0 0, .bool false]) ∧ w' = w := by
  have HZ := hide (frcs_any h _ rfl)
  obtain ⟨n, hn⟩ : ∃ n, n = S.rc.length := ⟨_, rfl⟩
  rw [← hn] at HZ hi
  clear h hn
  by_cases h0 : i < 0
  · have hd : decide (i < 0) = true := decide_eq_true h0
    clear hi HZ
    go_enter Tryz.func26, Tryz.ntmps26
    go_wp2_with fail
    go_ret2
    exact ⟨rfl, rfl⟩
  · have hd : decide (i < 0) = false := decide_eq_false h0
    have h1 : (n : Int) ≤ i := by omega
    have hd1 : decide ((n : Int) ≤ i) = true := decide_eq_true h1
    clear hi
    go_enter Tryz.func26, Tryz.ntmps26
    go_wp2_with fail
    refine HZ.out.mono ?_
    rintro ee w1 ⟨rfl, hw⟩
    subst w1
    clear HZ
    go_wp2_with fail
    go_ret2
    exact ⟨rfl, rfl⟩
set_option maxRecDepth 100000 in
theorem frec_ok (h : Fg w0 w p l pd S g) (i : Nat) (hi : i < S.rc.length) (x : List Int) (hx : x = S.rc[i]) : Calls Tryz.prog 26 #[.pointer (some ⟨p, 0, none⟩), .int .i64 i] w fun e w' => ∃ c, e = .returned (.tuple #[.slice (some ⟨w.heap.size, 0, none⟩) x.length c, .bool true]) ∧ Sl w' (.slice (some ⟨w.heap.size, 0, none⟩) x.length c) x ∧ Kp [] w w' := by
  have HZ := hide (frcs_any h _ rfl)
  obtain ⟨j, q, vr, hg⟩ := h
  obtain ⟨ar, cr, rfl⟩ := hg.rr.shape
  have hc4 := hg.at_.c4
  obtain ⟨b, rfl, hc⟩ := hg.rr.at i hi
  obtain ⟨hBx, hlx⟩ := hg.rb _ (List.getElem_mem hi)
  rw [← hx] at hc hBx hlx
  obtain ⟨c5, w5, hcv, S5, K5⟩ := conv_big (strOfNums x) w (by rw [str_size]; omega)
  rw [nums_str x hBx] at S5
  rw [str_size] at hcv S5
  have HS5 := hide S5
  have HK5 := hide K5
  obtain ⟨n, hn⟩ : ∃ n, n = S.rc.length := ⟨_, rfl⟩
  rw [← hn] at HZ hi hc4
  have h0 : ¬ (i : Int) < 0 := by omega
  have hd : decide ((i : Int) < 0) = false := decide_eq_false h0
  have h1 : ¬ (n : Int) ≤ (i : Int) := by omega
  have h2 : (i : Int) < (n : Int) := by omega
  have hd1 : decide ((n : Int) ≤ (i : Int)) = false := decide_eq_false h1
  obtain ⟨nx, hnx⟩ : ∃ n, n = x.length := ⟨_, rfl⟩
  rw [← hnx] at hcv HS5 ⊢
  clear hn hg S5 K5 hx hnx
  go_enter Tryz.func26, Tryz.ntmps26
  go_wp2_with fail
  refine HZ.out.mono ?_
  rintro ee w1 ⟨rfl, hw⟩
  subst w1
  clear HZ
  go_wp2_with fail
  go_ret2
  exact ⟨c5, rfl, HS5.out, HK5.out⟩
end
end Go.Proofs.YteabdojjllfcpaaGreat

/-
  The contract of package front: Step.
-/
namespace Go.Proofs.YteabdojjllfcpaaGreat
open Go.RowKit
open Go.Proofs
set_option linter.unusedVariables false
section
variable {w0 w : World} {p l pd pl pk : Nat} {S : FS} {L : LS} {g f : Fps}
theorem fstep_no (h : Fg w0 w p l pd S g) (now : Int) (h0 : -9223372036854775808 ≤ now) (h1 : now ≤ 9223372036854775807) (hd : S.q.due now = false) :
    Calls Tryz.prog 23 #[.pointer (some ⟨p, 0, none⟩), .int .i64 now] w fun e w' => e = .returned (.tuple #[.slice none 0 0, .int .i64 0]) ∧ Kp [] w w' := by
  obtain ⟨j, q, vr, hx⟩ := h
  have hc := hx.at_.c2
  have HD := hide (qf_due hx.qf now h0 h1 false hd.symm)
  clear hx h0 h1 hd
  go_enter Tryz.func23, Tryz.ntmps23
  go_wp2_with fail
  refine HD.out.mono ?_
  rintro ee w1 ⟨rfl, K1⟩
  have HK1 := hide K1
  clear HD K1
  go_wp2_with fail
  go_ret2
  exact ⟨rfl, HK1.out⟩
end
end Go.Proofs.YteabdojjllfcpaaGreat

/-
  The contract of the reference ledger's Find.
-/
namespace Go.Proofs.YteabdojjllfcpaaGreat
open Go.RowKit
open Go.Proofs
set_option linter.unusedVariables false
set_option maxRecDepth 100000 in
set_option maxHeartbeats 4000000 in
theorem rfind_any (p : Nat) (va : Value) (la : List (Value × List Int)) (vx : Value) (x : List Int) (r : Int) (w : World) (hc : w.cell? ⟨p, 0, none⟩ = some va) (hL : Lists w va la) (hS : Sl w vx x) (hB : Bs x) (hl : la.length ≤ 1000000) (hr : r = fdU (la.map (·.2)) x) :
    Calls Tryz.prog 82 #[.pointer (some ⟨p, 0, none⟩), vx] w fun e w' => e = .returned (.int .i64 r) ∧ Kp [] w w' := by
  have HBx := hide hB
  have HR := hide hr
  obtain ⟨ax, cx, hvx, -⟩ := id hS
  obtain ⟨nx, hnx⟩ : ∃ n, n = x.length := ⟨_, rfl⟩
  rw [← hnx] at hvx
  subst hvx
  have HSx := hide hS
  obtain ⟨aa, ca, rfl, -, hcell⟩ := hL
  have HC := hide hcell
  obtain ⟨N, hN⟩ : ∃ N, N = la.length := ⟨_, rfl⟩
  have HN := hide hN
  rw [← hN] at hc hl
  have HCp := hide hc
  clear hcell hN hB hr hS hnx hc
  go_enter Tryz.func82, Tryz.ntmps82
  go_wp2_with fail
  go_loopw [5] (fun j wr => ∃ i : Nat, i ≤ N ∧ j = .int .i64 i ∧ Hid (x ∉ (la.map (·.2)).take i) ∧ Hid (Kp [] w wr)) (fun j _ => N - (intOf j).toNat)
  case atStart => exact ⟨0, by omega, rfl, hide (by simp), hide (Kp.refl _ _)⟩
  case round =>
    obtain ⟨i, hi, rfl, HNi, HK⟩ := hrel
    have hcp := HK.out.cell HCp.out (by simp)
    by_cases hlt : i < N
    · have hi' : (i : Int) < (N : Int) := by omega
      have hdi : decide ((i : Int) < (N : Int)) = true := decide_eq_true hi'
      have hil : i < la.length := by rw [← HN.out]; exact hlt
      obtain ⟨b1, o1, rfl, hc1, hS1, hB1⟩ := HC.out i hil
      have HKd := hide (HK.out.trans (kp_drew _))
      have d0 := HKd.out.cell HCp.out (by simp)
      have d1 := HKd.out.cell hc1 (by simp)
      have v1 := (hS1.kept HKd.out (by simp)).conv (P := Tryz.prog) 28 9 5 Tryz.underlying28 Tryz.underlying5 Tryz.underlying9
      have v2 := (HSx.out.kept HKd.out (by simp)).conv (P := Tryz.prog) 28 9 5 Tryz.underlying28 Tryz.underlying5 Tryz.underlying9
      have htk : (la.map (·.2)).take (i + 1) = (la.map (·.2)).take i ++ [la[i].2] := by
        have := List.take_succ_eq_append_getElem (l := la.map (·.2)) (i := i) (by rw [List.length_map]; exact hil)
        rw [this, List.getElem_map]
      have hall : la.map (·.2) = ((la.map (·.2)).take i ++ [la[i].2]) ++ (la.map (·.2)).drop (i + 1) := by rw [← htk, List.take_append_drop]
      have hli : ((la.map (·.2)).take i).length = i := by rw [List.length_take, List.length_map]; omega
      obtain ⟨bi, hbi⟩ : ∃ x, x = la[i].2 := ⟨_, rfl⟩
      obtain ⟨vi, hvi⟩ : ∃ x, x = la[i].1 := ⟨_, rfl⟩
      rw [← hbi] at hS1 hB1 v1 htk hall
      rw [← hvi] at hS1 d1 v1
      obtain ⟨ai, ci, hvi', -⟩ := hS1
      obtain ⟨mi, hmi⟩ : ∃ n, n = bi.length := ⟨_, rfl⟩
      rw [← hmi] at hvi'
      subst hvi'
      have HTk := hide htk
      have HAl := hide hall
      have HLi := hide hli
      by_cases hxy : bi = x
      · subst hxy
        obtain ⟨S1, hS1⟩ : ∃ S, S = strOfNums bi := ⟨_, rfl⟩
        rw [← hS1] at v1 v2
        clear hS1 hbi hvi hmi htk hall hli hB1 hil hc1 hcp
        have hcp := HK.out.cell HCp.out (by simp)
        go_wp2_with fail
        refine region_read Tryz.mixed (by kernel_rfl) ?_
        repeat (first | go_big_quiet_skip | (go_big_quiet_want; go_big_quiet_op; go_big_quiet_on))
        refine wpQuiet_nil ?_
        go_wp2_with fail
        go_ret
        refine ⟨?_, HKd.out⟩
        rw [HR.out, HAl.out]
        unfold fdU
        rw [if_pos (by simp), idx_pre (by simp), idx_post HNi.out, HLi.out]
        simp
      · have hss := str_beq bi x hB1 HBx.out
        rw [decide_eq_false hxy] at hss
        have HXy := hide hxy
        obtain ⟨S1, hS1⟩ : ∃ S, S = strOfNums bi := ⟨_, rfl⟩
        obtain ⟨S2, hS2⟩ : ∃ S, S = strOfNums x := ⟨_, rfl⟩
        rw [← hS1, ← hS2] at hss
        rw [← hS1] at v1
        rw [← hS2] at v2
        clear hS1 hS2 hbi hvi hmi htk hall hli hB1 hil hc1 hxy
        go_wp2_with fail
        refine region_read Tryz.mixed (by kernel_rfl) ?_
        repeat (first | go_big_quiet_skip | (go_big_quiet_want; go_big_quiet_op; go_big_quiet_on))
        refine wpQuiet_nil ?_
        go_wp2_with fail
        go_roundw
        case rel => exact ⟨i + 1, by omega, by go_num, hide (by rw [HTk.out]; simp only [List.mem_append, List.mem_singleton, not_or]; exact ⟨HNi.out, fun e => HXy.out e.symm⟩), HKd⟩
        case measure => simp [intOf]; omega
    · obtain rfl : i = N := by omega
      have hi' : ¬ (i : Int) < (i : Int) := by omega
      have hdi : decide ((i : Int) < (i : Int)) = false := decide_eq_false hi'
      have hnm : x ∉ la.map (·.2) := by
        have := HNi.out
        rwa [List.take_of_length_le (by rw [List.length_map, HN.out]; omega)] at this
      have HNm := hide hnm
      clear hnm
      go_wp2_with fail
      go_ret
      refine ⟨?_, HK.out⟩
      rw [HR.out]
      unfold fdU
      rw [if_neg HNm.out]
      rfl
end Go.Proofs.YteabdojjllfcpaaGreat

/-
  The laws of front: fresh, on; a front and its ledger are opened on new disks.
-/
namespace Go.Proofs.YteabdojjllfcpaaGreat
open Go.RowKit
open Go.Proofs
set_option linter.unusedVariables false
section
variable {w w' : World} {x : Nat} {vf vl vd ve vk vw vrc vq : Value} {r s t : Int}
theorem Wd.s9 (h : Wd w x vf vl vd ve vk r s t vw vrc vq) (u : Value) : Wd (w.setCell ⟨x, 9, none⟩ u) x vf vl vd ve vk r s t vw u vq := by have := set_at h 9 u; simpa [Wd] using this
end
section
variable {w0 w : World} {x pd pl pk : Nat} {f : Fps} {F : Nat → Prop} {r s t : Int}
end
section
variable {w0 w : World} {x p l pd pl pk : Nat} {S : FS} {L : LS} {g f : Fps} {vw vrc vq : Value}
/-- Step of whatever is due. -/
theorem wz_step_no (h : Wz w0 w x p l pd pl pk S L g f vw vrc vq) (now : Int) (h0 : -9223372036854775808 ≤ now) (h1 : now ≤ 9223372036854775807) (hd : S.q.due now = false) :
    Calls Tryz.prog 23 #[.pointer (some ⟨p, 0, none⟩), .int .i64 now] w fun e w' => e = .returned (.tuple #[.slice none 0 0, .int .i64 0]) ∧ Kp [] w w' := fstep_no h.bo.fr now h0 h1 hd
end
end Go.Proofs.YteabdojjllfcpaaGreat

/-
  A slice of asks as an argument of front's laws.
-/
namespace Go.Proofs.YteabdojjllfcpaaGreat
open Go.ChangeShapes Go.WideShapes Go.ChangeAt Go.RowKit
open Go.Proofs
open Go.Deep
set_option linter.unusedVariables false
section
variable {P : Program} {H : Type} {enc : TypeId × Value → H} {w : World} {base : Nat} {spare : Nat → Bool} {held : Bool}
end
/-- one ask as data. -/
structure AskFE where
  kind : Int
  a : Int
  v : Int
  nw : Int
  vb : Value
  bs : List Int
def AskFAt (w : World) (b o : Nat) (x : AskFE) : Prop :=
  w.rangeAt b o [.int .i64 x.kind, .int .i64 x.a, .int .i64 x.v, .int .i64 x.nw, x.vb] ∧ Sl w x.vb x.bs ∧ Bs x.bs
/-- v is a slice that reads as the asks l. -/
def AskF (w : World) (v : Value) (l : List AskFE) : Prop :=
  ∃ ao c, v = .slice ao l.length c ∧ l.length ≤ 9223372036854775807 ∧ ∀ i (h : i < l.length), ∃ b off, ao = some ⟨b, off, none⟩ ∧ AskFAt w b (off + i * 5) l[i]
theorem AskFAt.kept {w w' : World} {b o : Nat} {x : AskFE} (h : AskFAt w b o x) (k : Kp [] w w') : AskFAt w' b o x :=
  ⟨fun j u hu => k.cell (h.1 j u hu) (by simp), h.2.1.kept k (by simp), h.2.2⟩
theorem AskF.kept {w w' : World} {v : Value} {l : List AskFE} (h : AskF w v l) (k : Kp [] w w') : AskF w' v l := by
  obtain ⟨ao, c, rfl, h1, h2⟩ := h
  refine ⟨ao, c, rfl, h1, fun i hi => ?_⟩
  obtain ⟨b, off, e, h3⟩ := h2 i hi
  exact ⟨b, off, e, h3.kept k⟩
section
variable {H : Type} {enc : TypeId × Value → H} {w : World}
end
end Go.Proofs.YteabdojjllfcpaaGreat

/-
  The law's queue: rows of a receipt's number and since when it waits (two ints each): slices that read so, rows that the call owns, append from one onto the other.
-/
namespace Go.Proofs.YteabdojjllfcpaaGreat
open Go.RowKit
open Go.Proofs
set_option linter.unusedVariables false
abbrev TyQ : TypeId := 143
def cellsQ (e : Int × Int) : List Value := [.int .i64 e.1, .int .i64 e.2]
def flatQ (l : List (Int × Int)) : List Value := l.flatMap cellsQ
theorem flatQ_length (l : List (Int × Int)) : (flatQ l).length = l.length * 2 := by
  unfold flatQ
  induction l with
  | nil => rfl
  | cons e l ih => rw [List.flatMap_cons, List.length_append, ih]; simp [cellsQ]; omega
theorem flatQ_get (l : List (Int × Int)) (i c : Nat) (hc : c < 2) (hi : i < l.length) : (flatQ l)[i * 2 + c]? = (cellsQ l[i])[c]? := by
  unfold flatQ
  induction l generalizing i with
  | nil => cases hi
  | cons e l ih =>
    cases i with
    | zero =>
      simp only [List.flatMap_cons, Nat.zero_mul, Nat.zero_add, List.getElem_cons_zero]
      rw [List.getElem?_append_left (by simpa [cellsQ] using hc)]
    | succ i =>
      simp only [List.flatMap_cons, List.getElem_cons_succ]
      rw [List.getElem?_append_right (by simp [cellsQ]; omega), ← ih i (by simpa using hi)]
      congr 1
      simp [cellsQ]; omega
theorem flatQ_app (l l' : List (Int × Int)) : flatQ (l ++ l') = flatQ l ++ flatQ l' := by simp [flatQ]
theorem flatQ_one (l : List (Int × Int)) : ∀ u ∈ flatQ l, u.oneCell' = true := by
  intro u hu
  obtain ⟨e, _, he⟩ := List.mem_flatMap.1 hu
  simp only [cellsQ, List.mem_cons, List.mem_nil_iff, or_false] at he
  rcases he with rfl | rfl <;> rfl
theorem Tryz.infoQ : (Tryz.prog.info? TyQ).map (fun i => (i.zero, i.size, i.bytes)) = some (some (.agg #[.int .i64 0, .int .i64 0]), 2, 16) := by kernel_rfl
/-- v is a slice that reads as these. -/
def RefQ (w : World) (v : Value) (l : List (Int × Int)) : Prop :=
  ∃ ao c, v = .slice ao l.length c ∧ l.length ≤ c ∧ c ≤ maxLen ∧ (ao = none → c = 0) ∧ ∀ a, ao = some a → a.spot = none ∧ ∀ j u, (flatQ l)[j]? = some u → w.cell? (a.add j) = some u
section
variable {w w' : World} {v v' : Value} {l l' : List (Int × Int)}
theorem RefQ.kept (h : RefQ w v l) {S : List Nat} (k : Kp S w w') (hd : ∀ i, v.ownBlock = some i → i ∉ S) : RefQ w' v l := by
  obtain ⟨ao, c, rfl, h1, h2, h3, h4⟩ := h
  refine ⟨ao, c, rfl, h1, h2, h3, fun a ha => ⟨(h4 a ha).1, fun j u hu => k.cell ((h4 a ha).2 j u hu) ?_⟩⟩
  subst ha
  have := hd a.block rfl
  have e : (a.add j).block = a.block := by unfold Addr.add; split <;> rfl
  rw [e]
  exact this
theorem RefQ.keptN (h : RefQ w v l) (k : Kp [] w w') : RefQ w' v l := h.kept k (fun _ _ => by simp)
theorem RefQ.nil (w : World) : RefQ w (.slice none 0 0) [] := ⟨none, 0, rfl, Nat.le_refl _, by simp [maxLen], fun _ => rfl, fun a h => by cases h⟩
theorem RefQ.stp {F F' : Nat → Prop} (h : RefQ w v l) (T : Stp F w w' F') (hn : ∀ i, v.ownBlock = some i → ¬ F i) : RefQ w' v l := by
  obtain ⟨⟨S, hS, k⟩, _⟩ := T
  exact h.kept k (fun i hi hm => hn i hi (hS i hm))
theorem RefQ.at (h : RefQ w v l) (i : Nat) (hi : i < l.length) : ∃ b off c, v = .slice (some ⟨b, off, none⟩) l.length c ∧ l.length ≤ c ∧ w.cell? ⟨b, off + i * 2, none⟩ = some (.int .i64 l[i].1) ∧ w.cell? ⟨b, off + i * 2 + 1, none⟩ = some (.int .i64 l[i].2) := by
  obtain ⟨ao, c, rfl, h1, h2, h3, h4⟩ := h
  cases ao with
  | none => have := h3 rfl; omega
  | some a =>
    obtain ⟨b, off, spot⟩ := a
    obtain ⟨hs, hc⟩ := h4 _ rfl
    have hs : spot = none := hs
    subst hs
    refine ⟨b, off, c, rfl, h1, ?_, ?_⟩
    · have := hc (i * 2) (.int .i64 l[i].1) (by have := flatQ_get l i 0 (by omega) hi; rw [Nat.add_zero] at this; rw [this]; rfl)
      rw [Addr.add_lit] at this
      exact this
    · have := hc (i * 2 + 1) (.int .i64 l[i].2) (by rw [flatQ_get l i 1 (by omega) hi]; rfl)
      rw [Addr.add_lit] at this
      exact this
/-- a cut's. -/
theorem RefQ.cut {ao : Option Addr} {n c : Nat} (h : RefQ w (.slice ao n c) l) (k : Nat) (hk : k ≤ n) : RefQ w (.slice (if c = k then ao else ao.map (·.add (k * 2))) (n - k) (c - k)) (l.drop k) := by
  obtain ⟨ao', c', e, h1, h2, h3, h4⟩ := h
  injection e with e1 e2 e3
  subst e1 e2 e3
  refine ⟨_, c - k, by rw [List.length_drop], by rw [List.length_drop]; omega, by omega, fun e => ?_, fun a ha => ?_⟩
  · by_cases hc : c = k
    · omega
    · rw [if_neg hc] at e
      cases ao with
      | none => have := h3 rfl; omega
      | some a => cases e
  · by_cases hc : c = k
    · rw [if_pos hc] at ha
      refine ⟨(h4 a ha).1, fun j u hu => ?_⟩
      have : l.drop k = [] := List.drop_eq_nil_of_le (by omega)
      rw [this] at hu
      cases hu
    · rw [if_neg hc] at ha
      cases ao with
      | none => cases ha
      | some b =>
        obtain ⟨h5, h6⟩ := h4 b rfl
        obtain ⟨bb, bo, bs⟩ := b
        have h5 : bs = none := h5
        subst h5
        have ha : (⟨bb, bo, none⟩ : Addr).add (k * 2) = a := by simpa using ha
        rw [Addr.add_lit] at ha
        subst ha
        refine ⟨rfl, fun j u hu => ?_⟩
        have e : flatQ l = flatQ (l.take k) ++ flatQ (l.drop k) := by rw [← flatQ_app, List.take_append_drop]
        have h7 := h6 (k * 2 + j) u (by
          have hl : (flatQ (l.take k)).length = k * 2 := by rw [flatQ_length, List.length_take]; omega
          rw [e, List.getElem?_append_right (by omega), hl, Nat.add_sub_cancel_left]
          exact hu)
        rw [Addr.add_lit] at h7 ⊢
        rw [Nat.add_assoc]
        exact h7
/-- A row of the call's own. -/
def RowQ2 (w : World) (base : Nat) (v : Value) (l : List (Int × Int)) : Prop := w.ownsRow base TyQ 2 v l.length (flatQ l)
theorem RowQ2.shape {base : Nat} (h : RowQ2 w base v l) : ∃ ao c, v = .slice ao l.length c := by
  rcases h.2 with ⟨rfl, h0⟩ | ⟨g, cap, cur, rfl, _⟩
  · rw [h0]; exact ⟨_, _, rfl⟩
  · exact ⟨_, _, rfl⟩
theorem RowQ2.ref {base : Nat} (h : RowQ2 w base v l) : RefQ w v l := by
  rcases h.2 with ⟨rfl, h0⟩ | ⟨g, cap, cur, rfl, _, hg, hn, hm, _⟩
  · have : l = [] := List.eq_nil_of_length_eq_zero h0
    subst this
    exact RefQ.nil w
  · refine ⟨some ⟨g, 0, none⟩, cap, rfl, hn, hm, (fun h => by cases h), fun a ha => ?_⟩
    cases ha
    exact ⟨rfl, h.cells (g := g) rfl⟩
theorem RowQ2.kept {base : Nat} (h : RowQ2 w base v l) {S : List Nat} (k : Kp S w w') (hd : ∀ i, v.ownBlock = some i → i ∉ S) : RowQ2 w' base v l := k.owns h hd
theorem RowQ2.lt {base : Nat} (h : RowQ2 w base v l) : ∀ i, v.ownBlock = some i → base ≤ i ∧ i < w.heap.size := fun i hi => World.ownsRow.lt h i hi
theorem RowQ2.rebase {b b' : Nat} (h : RowQ2 w b v l) (hb : b' ≤ b) : RowQ2 w b' v l := owns_rebase h (fun i hi => Nat.le_trans hb (h.lt i hi).1)
theorem run_appQ (t : TypeId) {b0 : Nat} (base : Value) (l l' : List (Int × Int)) (vx : Value) (w : World) (hr : RowQ2 w b0 base l) (hx : RefQ w vx l') (hb : l.length + l'.length ≤ 1000000) (h0 : b0 ≤ w.heap.size) :
    ∃ ao m c w', (Builtin.append_ #[48, 48] t #[base, vx]).run Tryz.prog w = .ok (.slice ao m c) w' ∧ RowQ2 w' b0 (.slice ao m c) (l ++ l') ∧ RStep w base w' (.slice ao m c) := by
  obtain ⟨i0, hi0, hz0, hz1, hz2⟩ := info_parts Tryz.infoQ
  obtain ⟨ax, cx, rfl, h1, h2, h3, h4⟩ := hx
  cases ax with
  | none =>
    have h0 : l' = [] := List.eq_nil_of_length_eq_zero (by have := h3 rfl; omega)
    subst h0
    obtain rfl := h3 rfl
    have hrun := run_append_owned_none (P := Tryz.prog) (w := w) b0 48 t TyQ i0 2 Tryz.underlying48 hi0 _ _ _ hr
    obtain ⟨ao, c, rfl⟩ := hr.shape
    exact ⟨ao, l.length, c, w, hrun, by rw [List.append_nil]; exact hr, Kp.refl _ _, fun _ h => .inl h⟩
  | some a =>
    obtain ⟨v', w1, hr1, hown1, hgrow, _, hat⟩ := run_append_own_at (P := Tryz.prog) w b0 48 t TyQ i0 _ 2 16 Tryz.underlying48 hi0 hz0 hz1 hz2 rfl (by decide) _ l.length (flatQ l) hr a l'.length cx (flatQ l') (flatQ_length l') (h4 a rfl).2 (flatQ_one l') (by unfold maxLen; omega) (by omega) h0
    have R : RowQ2 w1 b0 v' (l ++ l') := by unfold RowQ2; rw [List.length_append, flatQ_app]; exact hown1
    obtain ⟨ao, c, rfl⟩ := R.shape
    refine ⟨ao, _, c, w1, hr1, R, (Kp.refl _ w).grown hgrow (fun k hk => .inl (by simp [hk])), fun k hk => ?_⟩
    rcases hat with e | e
    · exact .inl (e ▸ hk)
    · rw [e] at hk; cases hk; exact .inr (Nat.le_refl _)
theorem wpList_appQ {b0 : Nat} {ops : Array Oper} {rest : List Oper} {o : Oper} {a : Act} {Q : Exit → Act → World → Prop} (hgd : o.guard = none) (s x : Operand)
    (ho : o.op = .call { callee := .builtin .append, args := #[s, x], argTypes := #[48, 48] }) (v : Value) (l : List (Int × Int)) (hs : a.eval s = v) (hr : RowQ2 w b0 v l) (vx : Value) (l' : List (Int × Int)) (hx : a.eval x = vx) (hS : RefQ w vx l') (hb : l.length + l'.length ≤ 1000000) (h0 : b0 ≤ w.heap.size)
    (h : ∀ ao m c w', RowQ2 w' b0 (.slice ao m c) (l ++ l') → RStep w v w' (.slice ao m c) → wpList Tryz.prog ops Q rest (a.put o.dst (.slice ao m c)) w') : wpList Tryz.prog ops Q (o :: rest) a w := by
  refine wpList_plain hgd fun K hK => ?_
  obtain ⟨ao, m, c, w1, hrun, h1, h2⟩ := run_appQ o.type v l l' vx w hr hS hb h0
  unfold Oper.wp execOp
  simp only [ho, resolve, invoke, builtin, Sem.run_bind, Sem.run_pure, Result.andThen_ok, List.map_toArray, List.map_cons, List.map_nil, hs, hx, hrun]
  exact hK _ _ (h ao m c w1 h1 h2)
/-- an empty slice that is not nil. -/
def EmpB (b0 : Nat) : Tell := fun v w => ∃ g, v = .slice (some ⟨g, 0, none⟩) 0 0 ∧ w.heap[g]? = some (.cells #[] TyQ (0, 0)) ∧ b0 ≤ g
end
section
variable {ao : Option Addr} {n c : Nat}
theorem run_restQ (k : Nat) (w : World) (h1 : k ≤ n) (h2 : n ≤ c) (h3 : ao = none → c = 0) : (Instr.sliceAt 48 (.slice ao n c) (some (.int .i64 k)) none none).run Tryz.prog w = .ok (.slice (if c = k then ao else ao.map (·.add (k * 2))) (n - k) (c - k)) w := by
  have e3 : (k : Int) ≤ (n : Int) := by omega
  cases ao with
  | none =>
    have := h3 rfl
    subst this
    obtain rfl : k = 0 := by omega
    obtain rfl : n = 0 := by omega
    simp [go_sem]
  | some a =>
    by_cases hc : c = k
    · subst hc
      obtain rfl : n = c := by omega
      simp [go_sem]
    · simp [go_sem, e3, hc]
/-- a literal of one. -/
theorem refQ_one (w : World) (x y : Int) : RefQ (w.alloc (.cells #[.int .i64 x, .int .i64 y] TyQ)) (.slice (some ⟨w.heap.size, 0, none⟩) 1 1) [(x, y)] := by
  refine ⟨_, 1, rfl, Nat.le_refl _, by simp [maxLen], (fun e => by cases e), fun a ha => ?_⟩
  cases ha
  exact ⟨rfl, fun j u hu => World.news_of_block (heap_alloc_new w _) j u (by simpa [flatQ, cellsQ] using hu)⟩
end
end Go.Proofs.YteabdojjllfcpaaGreat

/-
  The law's own state beside a front: the document's ledger (its items), the receipts, the queue.
-/
namespace Go.Proofs.YteabdojjllfcpaaGreat
open Go.RowKit
open Go.Proofs
set_option linter.unusedVariables false
def w00 (w : World) : World := { w with heap := #[] }
/-- the document's ledger: its first cell. -/
def Ldr (w : World) (p : Nat) (vi : Value) : Prop := ∃ c1 c2 c3 c4 c5 c6 c7 c8, w.heap[p]? = some (.cells #[vi, c1, c2, c3, c4, c5, c6, c7, c8] 152 (0, 0))
section
variable {w w' : World} {p : Nat} {vi u : Value}
theorem Ldr.kept {S : List Nat} (h : Ldr w p vi) (k : Kp S w w') (hp : p ∉ S) : Ldr w' p vi := by
  obtain ⟨c1, c2, c3, c4, c5, c6, c7, c8, h⟩ := h
  exact ⟨c1, c2, c3, c4, c5, c6, c7, c8, k.heap h hp⟩
theorem Ldr.c0 (h : Ldr w p vi) : w.cell? ⟨p, 0, none⟩ = some vi := by
  obtain ⟨c1, c2, c3, c4, c5, c6, c7, c8, h⟩ := h
  rw [cell_of_row w p 0 _ _ _ h]; rfl
theorem Ldr.f (h : Ldr w p vi) : w.frozen? ⟨p, 0, none⟩ = false := by
  obtain ⟨c1, c2, c3, c4, c5, c6, c7, c8, h⟩ := h
  simp [World.frozen?, h]
theorem Ldr.set (h : Ldr w p vi) (u : Value) : Ldr (w.setCell ⟨p, 0, none⟩ u) p u := by
  obtain ⟨c1, c2, c3, c4, c5, c6, c7, c8, h⟩ := h
  have := set_at h 0 u
  exact ⟨c1, c2, c3, c4, c5, c6, c7, c8, by simpa using this⟩
theorem Ldr.lt (h : Ldr w p vi) : p < w.heap.size := by
  obtain ⟨c1, c2, c3, c4, c5, c6, c7, c8, h⟩ := h
  exact (Array.getElem?_eq_some_iff.1 h).1
end
structure Lw (w0 w : World) (A : Nat → Prop) (x pw : Nat) (vi : Value) (li : List (Value × List Int)) (vrc : Value) (lr : List (Value × List Int)) (vq : Value) (tq : List (Int × Int)) : Prop where
  led : Ldr w pw vi
  ali : Al (w00 w0) w (fun i => (A i ∨ i = x) ∨ i = pw ∨ vrc.ownBlock = some i) vi li
  alr : Al (w00 w0) w (fun i => (A i ∨ i = x) ∨ i = pw ∨ vi.ownBlock = some i) vrc lr
  ee : ∀ y ∈ lr, ∀ k, y.1.ownBlock = some k → vrc.ownBlock ≠ some k
  q : RefQ w vq tq
  qo : ∀ k, vq.ownBlock = some k → w0.heap.size ≤ k ∧ k < w.heap.size ∧ ¬ ((A k ∨ k = x) ∨ k = pw ∨ vi.ownBlock = some k ∨ vrc.ownBlock = some k)
  po : w0.heap.size ≤ pw ∧ ¬ (A pw ∨ pw = x)
  vo : ∀ k, (vi.ownBlock = some k ∨ vrc.ownBlock = some k) → w0.heap.size ≤ k
section
variable {w0 w w' : World} {A A' : Nat → Prop} {x pw : Nat} {vi vi' : Value} {li : List (Value × List Int)} {vrc vrc' : Value} {lr : List (Value × List Int)} {vq vq' : Value} {tq tq' : List (Int × Int)}
theorem Lw.step (h : Lw w0 w A x pw vi li vrc lr vq tq) (T : Stp (fun i => A i ∨ i = x) w w' (fun i => A' i ∨ i = x)) : Lw w0 w' A' x pw vi li vrc lr vq tq := by
  have hpl := h.led.lt
  obtain ⟨U, hU, k⟩ := T.kp
  refine ⟨h.led.kept k (fun hm => h.po.2 (hU pw hm)), h.ali.step (T.side _), h.alr.step (T.side _), h.ee, h.q.stp T (fun i hi e => (h.qo i hi).2.2 (.inl e)), fun i hi => ?_, ⟨h.po.1, T.off hpl h.po.2⟩, h.vo⟩
  obtain ⟨h1, h2, h3⟩ := h.qo i hi
  exact ⟨h1, Nat.lt_of_lt_of_le h2 k.size, fun e => e.elim (fun e => T.off h2 (fun e' => h3 (.inl e')) e) (fun e => h3 (.inr e))⟩
theorem Lw.on (h : Lw w0 w A x pw vi li vrc lr vq tq) (k : Kp [] w w') : Lw w0 w' A x pw vi li vrc lr vq tq := h.step (Stp.mid k)
theorem Lw.fstep (h : Lw w0 w A x pw vi li vrc lr vq tq) (T : Stp A w w' A') : Lw w0 w' A' x pw vi li vrc lr vq tq := h.step (T.side _)
/-- memory of others is written. -/
theorem Lw.aside {T : List Nat} (h : Lw w0 w A x pw vi li vrc lr vq tq) (k : Kp T w w') (h1 : pw ∉ T) (h2 : ∀ i, (vi.ownBlock = some i ∨ vrc.ownBlock = some i ∨ vq.ownBlock = some i) → i ∉ T) (h3 : ∀ y ∈ li, ∀ i, y.1.ownBlock = some i → i ∉ T) (h4 : ∀ y ∈ lr, ∀ i, y.1.ownBlock = some i → i ∉ T) : Lw w0 w' A x pw vi li vrc lr vq tq :=
  ⟨h.led.kept k h1, ⟨h.ali.row.aside k (fun i e => h2 i (.inl e)) h3, fun i e => ⟨Nat.lt_of_lt_of_le (h.ali.own i e).1 k.size, (h.ali.own i e).2⟩, fun y hy i e => ⟨Nat.lt_of_lt_of_le (h.ali.its y hy i e).1 k.size, (h.ali.its y hy i e).2⟩⟩, ⟨h.alr.row.aside k (fun i e => h2 i (.inr (.inl e))) h4, fun i e => ⟨Nat.lt_of_lt_of_le (h.alr.own i e).1 k.size, (h.alr.own i e).2⟩, fun y hy i e => ⟨Nat.lt_of_lt_of_le (h.alr.its y hy i e).1 k.size, (h.alr.its y hy i e).2⟩⟩, h.ee, h.q.kept k (fun i e => h2 i (.inr (.inr e))), fun i hi => ⟨(h.qo i hi).1, Nat.lt_of_lt_of_le (h.qo i hi).2.1 k.size, (h.qo i hi).2.2⟩, h.po, h.vo⟩
/-- another queue, in the law's own cell. -/
theorem Lw.setq (h : Lw w0 w A x pw vi li vrc lr vq tq) (k : Kp [x] w w') (hq : RefQ w' vq' tq') (ho : ∀ k, vq'.ownBlock = some k → w0.heap.size ≤ k ∧ k < w'.heap.size ∧ ¬ ((A k ∨ k = x) ∨ k = pw ∨ vi.ownBlock = some k ∨ vrc.ownBlock = some k)) : Lw w0 w' A x pw vi li vrc lr vq' tq' := by
  have h' := h.step (A' := A) ⟨⟨[x], fun i hi => .inr (by simpa using hi), k⟩, fun i hi => .inl hi⟩
  exact ⟨h'.led, h'.ali, h'.alr, h'.ee, hq, ho, h'.po, h'.vo⟩
/-- one more receipt. -/
theorem Lw.putr {y : Value × List Int} (h : Lw w0 w A x pw vi li vrc lr vq tq) (hA : ∀ i, (A i ∨ i = x) → i < w.heap.size) (r : RowsQ w' 0 vrc' (lr ++ [y])) (s : RStep w vrc w' vrc') (hy : ∀ k, y.1.ownBlock = some k → k < w.heap.size ∧ ¬ ((A k ∨ k = x) ∨ k = pw ∨ vi.ownBlock = some k) ∧ vrc.ownBlock ≠ some k) (hw : w0.heap.size ≤ w.heap.size) : Lw w0 w' A x pw vi li vrc' (lr ++ [y]) vq tq := by
  have hpl := h.led.lt
  have hm : ∀ i ∈ vrc.ownBlock.toList, vrc.ownBlock = some i := fun i hi => by simpa [Option.mem_toList] using hi
  have hlow : ∀ i, ((A i ∨ i = x) ∨ i = pw ∨ vi.ownBlock = some i) → i < w.heap.size := fun i hi => by
    rcases hi with e | e | e
    · exact hA i e
    · rw [e]; exact hpl
    · exact (h.ali.own i e).1
  have hsz := s.1.size
  refine ⟨h.led.kept s.1 (fun e => (h.alr.own pw (hm pw e)).2 (.inr (.inl rfl))), h.ali.step ⟨⟨_, fun i hi => .inr (.inr (hm i hi)), s.1⟩, fun i hi => ?_⟩, h.alr.put hlow r s (fun i hi => ⟨(hy i hi).1, (hy i hi).2.1⟩), fun z hz i hi e => ?_, h.q.kept s.1 (fun i hi hmm => (h.qo i hi).2.2 (.inr (.inr (.inr (hm i hmm))))), fun i hi => ?_, h.po, fun i hi => ?_⟩
  · rcases hi with e | e | e
    · exact .inl (.inl e)
    · exact .inl (.inr (.inl e))
    · exact (s.2 i e).imp (fun e => .inr (.inr e)) (fun e' => ⟨e', r.1.1.lt e⟩)
  · have hlt : i < w.heap.size ∧ vrc.ownBlock ≠ some i := by
      rcases List.mem_append.1 hz with hz | hz
      · exact ⟨(h.alr.its z hz i hi).1, h.ee z hz i hi⟩
      · obtain rfl : z = y := by simpa using hz
        exact ⟨(hy i hi).1, (hy i hi).2.2⟩
    rcases s.2 i e with e | e
    · exact hlt.2 e
    · omega
  · obtain ⟨h1, h2, h3⟩ := h.qo i hi
    refine ⟨h1, by omega, fun e => ?_⟩
    rcases e with e | e | e | e
    · exact h3 (.inl e)
    · exact h3 (.inr (.inl e))
    · exact h3 (.inr (.inr (.inl e)))
    · rcases s.2 i e with e | e
      · exact h3 (.inr (.inr (.inr e)))
      · omega
  · rcases hi with e | e
    · exact h.vo i (.inl e)
    · rcases s.2 i e with e | e
      · exact h.vo i (.inr e)
      · omega
/-- one more item. -/
theorem Lw.puti {w8 : World} {y : Value × List Int} (h : Lw w0 w A x pw vi li vrc lr vq tq) (hA : ∀ i, (A i ∨ i = x) → i < w.heap.size) (r : RowsQ w8 0 vi' (li ++ [y])) (s : RStep w vi w8 vi') (hy : ∀ k, y.1.ownBlock = some k → k < w.heap.size ∧ ¬ ((A k ∨ k = x) ∨ k = pw ∨ vrc.ownBlock = some k)) (hye : ∀ y' ∈ lr, ∀ k, y'.1.ownBlock = some k → k < w.heap.size) (hw : w0.heap.size ≤ w.heap.size) : Lw w0 (w8.setCell ⟨pw, 0, none⟩ vi') A x pw vi' (li ++ [y]) vrc lr vq tq := by
  have hpl := h.led.lt
  have hm : ∀ i ∈ vi.ownBlock.toList, vi.ownBlock = some i := fun i hi => by simpa [Option.mem_toList] using hi
  have hlow : ∀ i, ((A i ∨ i = x) ∨ i = pw ∨ vrc.ownBlock = some i) → i < w.heap.size := fun i hi => by
    rcases hi with e | e | e
    · exact hA i e
    · rw [e]; exact hpl
    · exact (h.alr.own i e).1
  have hsz := s.1.size
  have k9 : Kp [pw] w8 (w8.setCell ⟨pw, 0, none⟩ vi') := kp_set w8 pw 0 _
  have hs9 := k9.size
  have l8 := h.led.kept s.1 (fun e => (h.ali.own pw (hm pw e)).2 (.inr (.inl rfl)))
  have li8 := h.ali.put hlow r s hy
  have lr8 : Al (w00 w0) w8 (fun i => (A i ∨ i = x) ∨ i = pw ∨ vi'.ownBlock = some i) vrc lr := h.alr.step ⟨⟨_, fun i hi => .inr (.inr (hm i hi)), s.1⟩, fun i hi => by
    rcases hi with e | e | e
    · exact .inl (.inl e)
    · exact .inl (.inr (.inl e))
    · exact (s.2 i e).imp (fun e => .inr (.inr e)) (fun e' => ⟨e', r.1.1.lt e⟩)⟩
  refine ⟨l8.set _, li8.step ⟨⟨_, fun i hi => .inr (.inl (by simpa using hi)), k9⟩, fun i hi => .inl hi⟩, lr8.step ⟨⟨_, fun i hi => .inr (.inl (by simpa using hi)), k9⟩, fun i hi => .inl hi⟩, h.ee, (h.q.kept s.1 (fun i hi hmm => (h.qo i hi).2.2 (.inr (.inr (.inl (hm i hmm)))))).kept k9 (fun i hi hmm => (h.qo i hi).2.2 (.inr (.inl (by simpa using hmm)))), fun i hi => ?_, h.po, fun i hi => ?_⟩
  · obtain ⟨h1, h2, h3⟩ := h.qo i hi
    refine ⟨h1, by omega, fun e => ?_⟩
    rcases e with e | e | e | e
    · exact h3 (.inl e)
    · exact h3 (.inr (.inl e))
    · rcases s.2 i e with e | e
      · exact h3 (.inr (.inr (.inl e)))
      · omega
    · exact h3 (.inr (.inr (.inr e)))
  · rcases hi with e | e
    · rcases s.2 i e with e | e
      · exact h.vo i (.inl e)
      · omega
    · exact h.vo i (.inr e)
end
/-- what the document says to a submission. -/
def ansP (its rc : List (List Int)) (tq : List (Int × Int)) (room : Int) (b : List Int) (now : Int) : Int × Int × List (List Int) × List (Int × Int) :=
  if okM b = false then (4, 0, rc, tq)
  else if b ∈ its then (2, its.idxOf b, rc, tq)
  else match tq.find? (fun e => rc.getD e.1.toNat [] == b) with
    | some e => (1, e.1, rc, tq)
    | none => if room ≤ tq.length then (3, 0, rc, tq) else (1, rc.length, rc ++ [b], tq ++ [((rc.length : Int), now)])
end Go.Proofs.YteabdojjllfcpaaGreat

/-
  A copy of the law's queue with one more item behind it, in a region that draws its order.
-/
namespace Go.Proofs.YteabdojjllfcpaaGreat
open Go.RowKit
open Go.Proofs
set_option linter.unusedVariables false
theorem take_at {cs : Array Value} {n : Nat} {L : List Value} (hl : L.length = n) (hn : n ≤ cs.size) (h : ∀ (j : Nat) (u : Value), L[j]? = some u → cs[j]? = some u) : cs.toList.take n = L := by
  refine List.ext_getElem (by simp; omega) (fun j h1 h2 => ?_)
  have h3 := h j L[j] (List.getElem?_eq_getElem h2)
  have h4 : j < cs.size := by omega
  rw [Array.getElem?_eq_getElem h4] at h3
  rw [List.getElem_take]
  simpa using Option.some.inj h3
theorem at_take {cs : Array Value} {n : Nat} {L : List Value} (h : cs.toList.take n = L) : ∀ (j : Nat) (u : Value), L[j]? = some u → cs[j]? = some u := fun j u hu => by
  rw [← h, List.getElem?_take] at hu
  split at hu
  · simpa using hu
  · cases hu
/-- what stays of new rows while one item is put behind n. -/
def KQ (b0 n : Nat) (e : Int × Int) (w w' : World) : Prop :=
  ∀ g cs, b0 ≤ g → w.heap[g]? = some (.cells cs TyQ (0, 0)) → ∃ cs', w'.heap[g]? = some (.cells cs' TyQ (0, 0)) ∧ cs'.size = cs.size ∧ (cs.size ≤ 2 → cs' = cs) ∧ (∀ j, j < n * 2 → cs'[j]? = cs[j]?) ∧ (cs[n * 2]? = some (.int .i64 e.1) → cs[n * 2 + 1]? = some (.int .i64 e.2) → cs'[n * 2]? = some (.int .i64 e.1) ∧ cs'[n * 2 + 1]? = some (.int .i64 e.2))
theorem kq_kp (b0 n : Nat) (e : Int × Int) {w w' : World} (k : Kp [] w w') : KQ b0 n e w w' := fun g cs _ hg => ⟨cs, k.heap hg (by simp), rfl, fun _ => rfl, fun _ _ => rfl, fun h1 h2 => ⟨h1, h2⟩⟩
/-- a row of this call's own. -/
def RowTq (b0 : Nat) (l : List (Int × Int)) : Tell := fun v w => ∃ (g cap : Nat) (cs : Array Value), v = .slice (some ⟨g, 0, none⟩) l.length cap ∧ l.length ≤ cap ∧ cap ≤ maxLen ∧ b0 ≤ g ∧ w.heap[g]? = some (.cells cs TyQ (0, 0)) ∧ cs.size = cap * 2 ∧ (l.length = 0 → cap = 0) ∧ ∀ (j : Nat) (u : Value), (flatQ l)[j]? = some u → cs[j]? = some u
def RowS1 (b0 : Nat) (l : List (Int × Int)) (e : Int × Int) : Tell := fun v w => ∃ (g cap : Nat) (cs : Array Value), v = .slice (some ⟨g, 0, none⟩) (l.length + 1) cap ∧ l.length + 1 ≤ cap ∧ cap ≤ maxLen ∧ b0 ≤ g ∧ w.heap[g]? = some (.cells cs TyQ (0, 0)) ∧ cs.size = cap * 2 ∧ ∀ (j : Nat) (u : Value), (flatQ (l ++ [e]))[j]? = some u → cs[j]? = some u
def LitQ (b0 : Nat) (e : Int × Int) : Tell := fun v w => ∃ g, v = .slice (some ⟨g, 0, none⟩) 1 1 ∧ b0 ≤ g ∧ w.heap[g]? = some (.cells #[.int .i64 e.1, .int .i64 e.2] TyQ (0, 0))
theorem stableG_isQ {b0 n : Nat} {e : Int × Int} (c : Value) : Tell.stableG (KQ b0 n e) (Is c) := fun _ _ _ _ h => h
theorem stableG_emp {n : Nat} {e : Int × Int} (b0 : Nat) : Tell.stableG (KQ b0 n e) (EmpB b0) := by
  rintro v w w' k ⟨g, rfl, h, hb⟩
  obtain ⟨cs', h1, -, h3, -⟩ := k g _ hb h
  exact ⟨g, rfl, by rw [h1, h3 (by simp)], hb⟩
theorem stableG_lit {n : Nat} {e : Int × Int} (b0 : Nat) (x : Int × Int) : Tell.stableG (KQ b0 n e) (LitQ b0 x) := by
  rintro v w w' k ⟨g, rfl, hb, h⟩
  obtain ⟨cs', h1, -, h3, -⟩ := k g _ hb h
  exact ⟨g, rfl, hb, by rw [h1, h3 (by simp)]⟩
theorem stableG_rowT {e : Int × Int} (b0 : Nat) (l : List (Int × Int)) : Tell.stableG (KQ b0 l.length e) (RowTq b0 l) := by
  rintro v w w' k ⟨g, cap, cs, rfl, h1, h2, hb, h, h3, h4, h5⟩
  obtain ⟨cs', g1, g2, -, g4, -⟩ := k g _ hb h
  refine ⟨g, cap, cs', rfl, h1, h2, hb, g1, by rw [g2, h3], h4, fun j u hu => ?_⟩
  have hj : j < l.length * 2 := by rw [← flatQ_length]; exact (List.getElem?_eq_some_iff.1 hu).1
  rw [g4 j hj]
  exact h5 j u hu
theorem stableG_row1 {e : Int × Int} (b0 : Nat) (l : List (Int × Int)) : Tell.stableG (KQ b0 l.length e) (RowS1 b0 l e) := by
  rintro v w w' k ⟨g, cap, cs, rfl, h1, h2, hb, h, h3, h5⟩
  obtain ⟨cs', g1, g2, -, g4, g5⟩ := k g _ hb h
  have e0 := h5 (l.length * 2) (.int .i64 e.1) (by rw [flatQ_app, List.getElem?_append_right (by rw [flatQ_length]; exact Nat.le_refl _), flatQ_length, Nat.sub_self]; rfl)
  have e1 := h5 (l.length * 2 + 1) (.int .i64 e.2) (by rw [flatQ_app, List.getElem?_append_right (by rw [flatQ_length]; omega), flatQ_length, Nat.add_sub_cancel_left]; rfl)
  obtain ⟨f0, f1⟩ := g5 e0 e1
  refine ⟨g, cap, cs', rfl, h1, h2, hb, g1, by rw [g2, h3], fun j u hu => ?_⟩
  have hj : j < l.length * 2 + 2 := by
    have := (List.getElem?_eq_some_iff.1 hu).1
    rw [flatQ_length, List.length_append] at this
    simp at this
    omega
  rcases (by omega : j < l.length * 2 ∨ j = l.length * 2 ∨ j = l.length * 2 + 1) with hj | rfl | rfl
  · rw [g4 j hj]; exact h5 j u hu
  · rw [f0, ← e0]; exact h5 _ u hu
  · rw [f1, ← e1]; exact h5 _ u hu
theorem RowS1.row {b0 : Nat} {l : List (Int × Int)} {e : Int × Int} {v : Value} {w : World} (h : RowS1 b0 l e v w) : RowQ2 w b0 v (l ++ [e]) := by
  obtain ⟨g, cap, cs, rfl, h1, h2, hb, h, h3, h5⟩ := h
  refine ⟨by rw [flatQ_length], .inr ⟨g, cap, cs, by rw [List.length_append]; rfl, hb, h, by rw [List.length_append]; exact h1, h2, h3, take_at (by rw [flatQ_length]) (by rw [h3, List.length_append]; simp; omega) h5⟩⟩
theorem RowQ2.rowT {w : World} {b0 : Nat} {v : Value} {l : List (Int × Int)} (h : RowQ2 w b0 v l) (hl : l ≠ []) : RowTq b0 l v w := by
  have hpos : 0 < l.length := List.length_pos_iff.2 hl
  rcases h.2 with ⟨_, h0⟩ | ⟨g, cap, cs, rfl, hb, h, h1, h2, h3, h5⟩
  · omega
  · exact ⟨g, cap, cs, rfl, h1, h2, hb, h, h3, (fun e => by omega), at_take h5⟩
theorem grown_copyQ {b0 : Nat} {o : Oper} {a : Act} {w : World} (s x : Operand) (l : List (Int × Int)) (ho : o.op = .call { callee := .builtin .append, args := #[s, x], argTypes := #[48, 48] })
    (hs : EmpB b0 (a.eval s) w) (hx : RefQ w (a.eval x) l) (hb : l.length ≤ 100000) (h0 : b0 ≤ w.heap.size) : grown Tryz.prog w (RowTq b0 l) ((execOp a.eval o).run Tryz.prog w) := by
  obtain ⟨i0, hi0, hz0, hz1, hz2⟩ := info_parts Tryz.infoQ
  obtain ⟨g, hv, hg, hb0⟩ := hs
  obtain ⟨ax, cx, hxv, h1, h2, h3, h4⟩ := hx
  by_cases hc : l = []
  · subst hc
    have hrun := run_append_nothing (P := Tryz.prog) w 48 48 o.type TyQ i0 Tryz.underlying48 hi0 (some ⟨g, 0, none⟩) 0 0 (Nat.le_refl _) (.slice ax 0 cx) (by
      cases ax with
      | none => exact Src.ofNil w Tryz.underlying48 cx
      | some ad => exact Src.ofSlice w Tryz.underlying48 ad 0 cx [] (by simp) (by simp) (by simp))
    refine grown_run (v := .slice (some ⟨g, 0, none⟩) 0 0) (w' := w) ?_ (Kp.refl _ _) ⟨g, 0, _, rfl, Nat.le_refl _, by simp [maxLen], hb0, hg, rfl, fun _ => rfl, fun j u hu => by simp [flatQ] at hu⟩
    have hxv : a.eval x = .slice ax 0 cx := hxv
    simp [execOp, ho, resolve, invoke, builtin, hv, hxv, hrun, Result.andThen]
  · cases ax with
    | none => exact absurd (List.eq_nil_of_length_eq_zero (by have := h3 rfl; omega)) hc
    | some ad =>
      have hpos : 0 < l.length := List.length_pos_iff.2 hc
      obtain ⟨v', w', hrun, r1, r2⟩ := run_append_arg_grows (P := Tryz.prog) w 48 o.type TyQ i0 _ 2 16 Tryz.underlying48 hi0 hz0 hz1 hz2 rfl (by decide) ⟨g, 0, none⟩ 0 0 [] (by simp) (by simp) ad l.length cx (flatQ l) (flatQ_length l) (h4 ad rfl).2 (by omega) (by unfold maxLen; omega) (by omega)
      refine grown_run (v := v') (w' := w') ?_ ((Kp.refl [] w).grown r2 (by intro k hk; cases hk)) ?_
      · simp [execOp, ho, resolve, invoke, builtin, hv, hxv, hrun, Result.andThen]
      · rw [List.nil_append, Nat.zero_add] at r1
        exact RowQ2.rowT (RowQ2.rebase (show RowQ2 w' w.heap.size v' l from r1) h0) hc
theorem grown_litQ {b0 : Nat} {o : Oper} {a : Act} {w : World} (x : Operand) (e : Int × Int) (ho : o.op = .buildSlice 48 1 #[(0, x)]) (hx : a.eval x = .agg #[.int .i64 e.1, .int .i64 e.2]) (h0 : b0 ≤ w.heap.size) : grown Tryz.prog w (LitQ b0 e) ((execOp a.eval o).run Tryz.prog w) := by
  refine grown_run (v := .slice (some ⟨w.heap.size, 0, none⟩) 1 1) (w' := w.alloc (.cells #[.int .i64 e.1, .int .i64 e.2] TyQ)) ?_ ((Kp.refl _ _).alloc _) ⟨_, rfl, h0, heap_alloc_new w _⟩
  obtain ⟨ρ, hρ, hc, hf, hg⟩ := eval_is a
  rw [hρ] at hx ⊢
  unfold execOp
  simp only [ho]
  simp [go_sem, hx]
theorem wantsG_putQ {b0 : Nat} {w0 : World} {ops : Array Oper} {o : Oper} {a : Act} {w : World} (hgd : o.guard = none) (s x : Operand) (l : List (Int × Int)) (e : Int × Int) (ho : o.op = .call { callee := .builtin .append, args := #[s, x], argTypes := #[48, 48] })
    (hk : Kp [] w0 w) (hw0 : w0.heap.size ≤ b0) (hs : RowTq b0 l (a.eval s) w) (hx : LitQ b0 e (a.eval x) w) (hb : l.length ≤ 100000) (h0 : b0 ≤ w.heap.size) : wantsG (KQ b0 l.length e) (fun _ w => Kp [] w0 w) Tryz.prog ops o a w (RowS1 b0 l e) := by
  obtain ⟨i0, hi0, hz0, hz1, hz2⟩ := info_parts Tryz.infoQ
  obtain ⟨g, cap, cs, hv, h1, h2, hgb, hg, h3, h4, h5⟩ := hs
  obtain ⟨gx, hxv, hxb, hgx⟩ := hx
  have hnews : ∀ j u, [Value.int .i64 e.1, .int .i64 e.2][j]? = some u → w.cell? ((⟨gx, 0, none⟩ : Addr).add j) = some u := fun j u hu => by
    rw [Addr.add_lit, Nat.zero_add, cell_of_row w gx j _ _ _ hgx]
    simpa using hu
  have hlq : (flatQ l).length = l.length * 2 := flatQ_length l
  unfold wantsG
  rw [if_pos (by simp [Region.wanted, hgd])]
  by_cases hfit : l.length + 1 ≤ cap
  · have hcs : ∀ j, j < 2 → (cs[l.length * 2 + j]?).isSome = true := fun j hj => by
      rw [Option.isSome_iff_exists]
      exact ⟨_, Array.getElem?_eq_getElem (by omega)⟩
    have hrun := run_append_room_cells (P := Tryz.prog) w 48 o.type TyQ i0 Tryz.underlying48 hi0 g 0 l.length cap ⟨gx, 0, none⟩ 1 1 [.int .i64 e.1, .int .i64 e.2] (by simp [hz1]) hnews (by simp [Value.oneCell']) hfit (fun j hj => by
      rw [hz1, Nat.zero_add, cell_of_row w g _ _ _ _ hg]
      exact hcs j (by simpa using hj)) (fun j hj => frozen_of_row _ _ _ _ _ hg)
    rw [hz1, Nat.zero_add] at hrun
    obtain ⟨w1, hw1⟩ : ∃ y, y = w.setCell ⟨g, l.length * 2, none⟩ (.int .i64 e.1) := ⟨_, rfl⟩
    obtain ⟨w2, hw2⟩ : ∃ y, y = w1.setCell ⟨g, l.length * 2 + 1, none⟩ (.int .i64 e.2) := ⟨_, rfl⟩
    have hset : w.setCells g (l.length * 2) [.int .i64 e.1, .int .i64 e.2] = w2 := by rw [hw2, hw1]; rfl
    rw [hset] at hrun
    have hrun' : (execOp a.eval o).run Tryz.prog w = .ok (.value (.slice (some ⟨g, 0, none⟩) (l.length + 1) cap)) w2 := by
      simp [execOp, ho, resolve, invoke, builtin, hv, hxv, hrun, Result.andThen]
    rw [hrun']
    have g1 : w1.heap[g]? = some (.cells (cs.setIfInBounds (l.length * 2) (.int .i64 e.1)) TyQ (0, 0)) := by rw [hw1]; exact set_at hg _ _
    have g2 : w2.heap[g]? = some (.cells ((cs.setIfInBounds (l.length * 2) (.int .i64 e.1)).setIfInBounds (l.length * 2 + 1) (.int .i64 e.2)) TyQ (0, 0)) := by rw [hw2]; exact set_at g1 _ _
    have k2 : Kp [g] w w2 := by
      have ka : Kp [g] w w1 := by rw [hw1]; exact kp_set w g _ _
      rw [hw2]
      exact ka.trans (kp_set w1 g _ _)
    obtain ⟨cs2, hcs2⟩ : ∃ c, c = (cs.setIfInBounds (l.length * 2) (.int .i64 e.1)).setIfInBounds (l.length * 2 + 1) (.int .i64 e.2) := ⟨_, rfl⟩
    rw [← hcs2] at g2
    have s2 : cs2.size = cs.size := by rw [hcs2]; simp
    have p2 : ∀ j, j < l.length * 2 → cs2[j]? = cs[j]? := fun j hj => by
      rw [hcs2, Array.getElem?_setIfInBounds_ne (by omega), Array.getElem?_setIfInBounds_ne (by omega)]
    have e0 : cs2[l.length * 2]? = some (.int .i64 e.1) := by
      rw [hcs2, Array.getElem?_setIfInBounds_ne (by omega), Array.getElem?_setIfInBounds_self]
      rw [if_pos (by omega)]
    have e1 : cs2[l.length * 2 + 1]? = some (.int .i64 e.2) := by
      rw [hcs2, Array.getElem?_setIfInBounds_self, if_pos (by simp; omega)]
    refine ⟨⟨fun q c hq hqc => ?_, hk.then k2 (fun i hi => .inr (by simp at hi; omega))⟩, g, cap, cs2, rfl, hfit, h2, hgb, g2, by rw [s2, h3], fun j u hu => ?_⟩
    · by_cases hqg : q = g
      · subst hqg
        rw [hg] at hqc
        cases hqc
        exact ⟨cs2, g2, s2, fun hle => by omega, p2, fun _ _ => ⟨e0, e1⟩⟩
      · exact ⟨c, k2.heap hqc (by simpa using hqg), rfl, fun _ => rfl, fun _ _ => rfl, fun h1 h2 => ⟨h1, h2⟩⟩
    · rw [flatQ_app] at hu
      by_cases hj : j < l.length * 2
      · rw [List.getElem?_append_left (by omega)] at hu
        rw [p2 j hj]
        exact h5 j u hu
      · rw [List.getElem?_append_right (by omega), hlq] at hu
        have hj2 : j - l.length * 2 < 2 := by have := (List.getElem?_eq_some_iff.1 hu).1; simpa [flatQ, cellsQ] using this
        rcases (by omega : j = l.length * 2 ∨ j = l.length * 2 + 1) with rfl | rfl
        · rw [Nat.sub_self] at hu
          rw [e0]; exact hu
        · rw [Nat.add_sub_cancel_left] at hu
          rw [e1]; exact hu
  · obtain ⟨v', w', hrun, r1, r2⟩ := run_append_arg_grows (P := Tryz.prog) w 48 o.type TyQ i0 _ 2 16 Tryz.underlying48 hi0 hz0 hz1 hz2 rfl (by decide) ⟨g, 0, none⟩ l.length cap (flatQ l) hlq (fun j u hu => by rw [Addr.add_lit, Nat.zero_add, cell_of_row w g j _ _ _ hg]; exact h5 j u hu) ⟨gx, 0, none⟩ 1 1 [.int .i64 e.1, .int .i64 e.2] (by simp) hnews (by omega) (by unfold maxLen; omega) (by omega)
    have kg : Kp [] w w' := (Kp.refl [] w).grown r2 (by intro k hk; cases hk)
    have hrun' : (execOp a.eval o).run Tryz.prog w = .ok (.value v') w' := by
      simp [execOp, ho, resolve, invoke, builtin, hv, hxv, hrun, Result.andThen]
    rw [hrun']
    refine ⟨⟨kq_kp _ _ _ kg, hk.trans kg⟩, ?_⟩
    have hfl : flatQ l ++ [.int .i64 e.1, .int .i64 e.2] = flatQ (l ++ [e]) := by rw [flatQ_app]; rfl
    rw [hfl] at r1
    rcases r1.2 with ⟨_, h0'⟩ | ⟨g', cap', cur, rfl, hb', hg', q1, q2, q3, q4⟩
    · omega
    · exact ⟨g', cap', cur, rfl, q1, q2, by omega, hg', q3, at_take q4⟩
end Go.Proofs.YteabdojjllfcpaaGreat

/-
  Power that goes at any call of any of a front's disks: what stands on them, as plain facts.
-/
namespace Go.Proofs.YteabdojjllfcpaaGreat
open Go.RowKit
open Go.Proofs
set_option linter.unusedVariables false
/-- these records stand on a disk, power is to go at call a. -/
def upR (rs : List (List Int)) (a : Int) : Dk := ⟨layP rs, (layP rs).length, 1048576, a, false⟩
/-- power went while r was written. -/
def dnR (rs : List (List Int)) (r : List Int) : Dk := ⟨layP (rs ++ [r]), (layP rs).length, 1048576, 0, true⟩
def StRf (P : List Int → Prop) (d : Dk) (rs : List (List Int)) : Prop := (∃ a, 0 ≤ a ∧ d = upR rs a) ∨ ∃ r, P r ∧ d = dnR rs r
theorem StRf.imp {P Q : List Int → Prop} {d : Dk} {rs : List (List Int)} (h : StRf P d rs) (hi : ∀ r, P r → Q r) : StRf Q d rs := by
  rcases h with h | ⟨r, h1, h2⟩
  · exact .inl h
  · exact .inr ⟨r, hi r h1, h2⟩
/-- the front, behind k calls. -/
structure KpF (S : FS) (k : Nat) : Prop where
  room : S.room = 8
  size : S.size = 3
  wait : S.wait = 5
  st : StRf (fun r => okM r = true ∧ Bs r ∧ r ∉ S.rc) S.d S.rc
  ok : ∀ x ∈ S.rc, okM x = true ∧ Bs x
  nd : S.rc.Nodup
  m : S.m ≤ k
  len : S.rc.length ≤ k
theorem KpF.bs {S : FS} {k : Nat} (h : KpF S k) : ∀ x ∈ S.rc, Bs x ∧ x.length ≤ 125 := fun x hx => ⟨(h.ok x hx).2, okM_short (h.ok x hx).2 (h.ok x hx).1⟩
theorem map_evr (xs : List (List Int)) : (xs.map evr).map It.bs = xs := by
  induction xs with
  | nil => rfl
  | cons x l ih => simp only [List.map_cons, ih]; rfl
section
variable {w0 w w' : World} {x p l pd pl pk : Nat} {S : FS} {L : LS} {g f : Fps} {vw vrc vq : Value}
theorem Ds.beside {dd dk : Dk} {T : List Nat} (h : Ds w0 w pl pk dd dk f) (k : Kp T w w') (hT : ∀ i ∈ T, w0.heap.size ≤ i ∧ ¬ f.tot i) : Ds w0 w' pl pk dd dk f := by
  have k0 : Kp [] w0 w' := h.ok.kp.then k (fun i hi => .inr (hT i hi).1)
  have no : ∀ a, ∀ i ∈ T, ¬ f a i := fun a i hi ha => (hT i hi).2 ⟨a, ha⟩
  exact ⟨⟨k0, h.ok.ap, fun a i hi => ⟨(h.ok.rng a i hi).1, Nat.lt_of_lt_of_le (h.ok.rng a i hi).2 k.size⟩⟩, h.d.kept k k0 (no 5), h.k.kept k k0 (no 6)⟩
/-- the three disks, when front and ledger are left. -/
structure Dz (w0 w : World) (pd pl pk : Nat) (d dd dk : Dk) (F : Nat → Prop) (f : Fps) : Prop where
  d : Dx w0 w pd d F
  s : Ds w0 w pl pk dd dk f
  ap : ∀ i, F i → ¬ f.tot i
  rng : ∀ i, F i → w0.heap.size ≤ i ∧ i < w.heap.size
theorem Bo.dz (h : Bo w0 w p l pd pl pk S L g f) : Dz w0 w pd pl pk S.d L.dd L.dk g.tot f := by
  obtain ⟨j, q, vr, hx⟩ := id h.fr
  exact ⟨hx.jx.dx.upd (fun i hi => ⟨3, hi⟩), h.lg.ds, h.ap, h.fr.lt⟩
section
variable {d dd dk d' : Dk} {F : Nat → Prop}
theorem Dz.on (h : Dz w0 w pd pl pk d dd dk F f) (k : Kp [] w w') : Dz w0 w' pd pl pk d dd dk F f :=
  ⟨h.d.kept k (h.d.kp0.trans k) (by simp), h.s.on k, h.ap, fun i hi => ⟨(h.rng i hi).1, Nat.lt_of_lt_of_le (h.rng i hi).2 k.size⟩⟩
theorem Dz.srng (h : Dz w0 w pd pl pk d dd dk F f) : ∀ i, f.tot i → w0.heap.size ≤ i ∧ i < w.heap.size := fun i ⟨a, ha⟩ => h.s.ok.rng a i ha
theorem dz_crash (h : Dz w0 w pd pl pk d dd dk F f) (n : Int) (he : d.crash n = d') : Calls Tryz.prog 25 #[.pointer (some ⟨pd, 0, none⟩), .int .i64 n] w fun e w' => e = .returned (.tuple #[]) ∧ ∃ F', Dz w0 w' pd pl pk d' dd dk F' f ∧ Stp (fun i => F i ∨ f.tot i) w w' (fun i => F' i ∨ f.tot i) := by
  obtain ⟨v, N, hv⟩ := h.d
  refine (nw_crash N n he).mono ?_
  rintro e w' ⟨rfl, v', N', T⟩
  obtain ⟨F', D', T', hF⟩ := Dx.stepD hv N' T
  obtain ⟨U, hU, k⟩ := T'.kp
  refine ⟨rfl, F', ⟨D', h.s.beside k (fun i hi => ⟨(h.rng i (hU i hi)).1, h.ap i (hU i hi)⟩), fun i hi hf => ?_, fun i hi => ?_⟩, T'.side f.tot⟩
  · rcases T'.2 i hi with h1 | h1
    · exact h.ap i h1 hf
    · have := (h.srng i hf).2; omega
  · rcases T'.2 i hi with h1 | h1
    · exact ⟨(h.rng i h1).1, Nat.lt_of_lt_of_le (h.rng i h1).2 k.size⟩
    · have := h.d.kp0.size
      omega
theorem Dz.stepS {dd' dk' : Dk} {f' : Fps} (h : Dz w0 w pd pl pk d dd dk F f) (hS : Ds w0 w' pl pk dd' dk' f') (T : Stp f.tot w w' f'.tot) : Dz w0 w' pd pl pk d dd' dk' F f' ∧ Stp (fun i => F i ∨ f.tot i) w w' (fun i => F i ∨ f'.tot i) := by
  obtain ⟨U, hU, k⟩ := T.kp
  refine ⟨⟨h.d.kept k hS.ok.kp (fun i hi hF => h.ap i hF (hU i hi)), hS, fun i hi hf => ?_, fun i hi => ⟨(h.rng i hi).1, Nat.lt_of_lt_of_le (h.rng i hi).2 k.size⟩⟩, (T.side F).cong (fun i hi => hi.symm) (fun i hi => hi.symm)⟩
  rcases T.2 i hf with h1 | h1
  · exact h.ap i hi h1
  · have := (h.rng i hi).2; omega
theorem dz_crashD (h : Dz w0 w pd pl pk d dd dk F f) (n : Int) (he : dd.crash n = d') : Calls Tryz.prog 25 #[.pointer (some ⟨pl, 0, none⟩), .int .i64 n] w fun e w' => e = .returned (.tuple #[]) ∧ ∃ f', Dz w0 w' pd pl pk d d' dk F f' ∧ Stp (fun i => F i ∨ f.tot i) w w' (fun i => F i ∨ f'.tot i) := by
  refine (ds_crashD h.s n he).mono ?_
  rintro e w' ⟨rfl, f', S', T⟩
  exact ⟨rfl, f', h.stepS S' T⟩
theorem dz_crashK (h : Dz w0 w pd pl pk d dd dk F f) (n : Int) (he : dk.crash n = d') : Calls Tryz.prog 25 #[.pointer (some ⟨pk, 0, none⟩), .int .i64 n] w fun e w' => e = .returned (.tuple #[]) ∧ ∃ f', Dz w0 w' pd pl pk d dd d' F f' ∧ Stp (fun i => F i ∨ f.tot i) w w' (fun i => F i ∨ f'.tot i) := by
  refine (ds_crashK h.s n he).mono ?_
  rintro e w' ⟨rfl, f', S', T⟩
  exact ⟨rfl, f', h.stepS S' T⟩
end
end
end Go.Proofs.YteabdojjllfcpaaGreat

/-
  One slice put behind a row of slices, in a region that draws its order.
-/
namespace Go.Proofs.YteabdojjllfcpaaGreat
open Go.RowKit
open Go.Proofs
set_option linter.unusedVariables false
abbrev TyB : TypeId := 28
/-- what stays while X is put behind n slices in a row of the blocks og. -/
structure KV (og : List Nat) (n : Nat) (X : Value) (w w' : World) : Prop where
  kp : Kp og w w'
  row : ∀ (g : Nat) (cs : Array Value), w.heap[g]? = some (.cells cs TyB (0, 0)) → ∃ (cs' : Array Value), w'.heap[g]? = some (.cells cs' TyB (0, 0)) ∧ cs'.size = cs.size ∧ (∀ (j : Nat), j < n → cs'[j]? = cs[j]?) ∧ (cs[n]? = some X → cs'[n]? = some X)
theorem KV.of {og : List Nat} {n : Nat} {X : Value} {w w' : World} (k : Kp [] w w') : KV og n X w w' := ⟨k.mono (by simp), fun g cs hg => ⟨cs, k.heap hg (by simp), rfl, fun _ _ => rfl, fun h => h⟩⟩
theorem KV.trans {og : List Nat} {n : Nat} {X : Value} {w w1 w2 : World} (h : KV og n X w w1) (k : KV og n X w1 w2) : KV og n X w w2 := by
  refine ⟨h.kp.trans k.kp, fun g cs hg => ?_⟩
  obtain ⟨c1, a1, a2, a3, a4⟩ := h.row g cs hg
  obtain ⟨c2, b1, b2, b3, b4⟩ := k.row g c1 a1
  exact ⟨c2, b1, by rw [b2, a2], fun j hj => by rw [b3 j hj, a3 j hj], fun e => b4 (a4 e)⟩
/-- the row itself. -/
theorem KV.rowv {og : List Nat} {X : Value} {w w' : World} {v : Value} {L : List Value} (h : RowV w 0 v L) (k : KV og L.length X w w') : RowV w' 0 v L := by
  rcases h.2 with ⟨rfl, h0⟩ | ⟨g, cap, cs, rfl, hb, hg, h1, h2, h3, h4⟩
  · exact ⟨h.1, .inl ⟨rfl, h0⟩⟩
  · obtain ⟨c2, b1, b2, b3, -⟩ := k.row g cs hg
    refine ⟨h.1, .inr ⟨g, cap, c2, rfl, hb, b1, h1, h2, by rw [b2, h3], take_at (by simp) (by rw [b2, h3]; omega) (fun j u hu => ?_)⟩⟩
    have hj := (List.getElem?_eq_some_iff.1 hu).1
    rw [b3 j hj]
    exact at_take h4 j u hu
def LitV (b0 : Nat) (X : Value) : Tell := fun v w => ∃ g, v = .slice (some ⟨g, 0, none⟩) 1 1 ∧ b0 ≤ g ∧ w.heap[g]? = some (.cells #[X] TyB (0, 0))
def RowX (b0 : Nat) (og : List Nat) (L : List Value) (X : Value) : Tell := fun v w => ∃ (g cap : Nat) (cs : Array Value), v = .slice (some ⟨g, 0, none⟩) (L.length + 1) cap ∧ L.length + 1 ≤ cap ∧ cap ≤ maxLen ∧ (g ∈ og ∨ b0 ≤ g) ∧ w.heap[g]? = some (.cells cs TyB (0, 0)) ∧ cs.size = cap ∧ ∀ (j : Nat) (u : Value), (L ++ [X])[j]? = some u → cs[j]? = some u
theorem stableV_is {og : List Nat} {n : Nat} {X : Value} (c : Value) : Tell.stableG (KV og n X) (Is c) := fun _ _ _ _ h => h
theorem stableV_lit {og : List Nat} {n : Nat} {X : Value} (b0 : Nat) (hog : ∀ i ∈ og, i < b0) : Tell.stableG (KV og n X) (LitV b0 X) := by
  rintro v w w' k ⟨g, rfl, hb, h⟩
  exact ⟨g, rfl, hb, k.kp.heap h (fun hm => by have := hog g hm; omega)⟩
theorem stableV_row {og : List Nat} {X : Value} (b0 : Nat) (L : List Value) : Tell.stableG (KV og L.length X) (RowX b0 og L X) := by
  rintro v w w' k ⟨g, cap, cs, rfl, h1, h2, hb, h, h3, h5⟩
  obtain ⟨cs', g1, g2, g4, g5⟩ := k.row g _ h
  have e0 := h5 L.length X (by rw [List.getElem?_append_right (Nat.le_refl _), Nat.sub_self]; rfl)
  refine ⟨g, cap, cs', rfl, h1, h2, hb, g1, by rw [g2, h3], fun j u hu => ?_⟩
  have hj : j < L.length + 1 := by have := (List.getElem?_eq_some_iff.1 hu).1; simpa using this
  rcases (by omega : j < L.length ∨ j = L.length) with hj | rfl
  · rw [g4 j hj]; exact h5 j u hu
  · rw [g5 e0, ← e0]; exact h5 _ u hu
theorem RowX.row {b0 : Nat} {og : List Nat} {L : List Value} {X v : Value} {w : World} (h : RowX b0 og L X v w) : RowV w 0 v (L ++ [X]) := by
  obtain ⟨g, cap, cs, rfl, h1, h2, hb, h, h3, h5⟩ := h
  refine ⟨by simp, .inr ⟨g, cap, cs, by simp, Nat.zero_le _, h, by simpa using h1, h2, by rw [h3, Nat.mul_one], take_at (by simp) (by rw [h3]; simp; omega) h5⟩⟩
theorem RowX.own {b0 : Nat} {og : List Nat} {L : List Value} {X v : Value} {w : World} (h : RowX b0 og L X v w) : ∀ k, v.ownBlock = some k → k ∈ og ∨ b0 ≤ k := by
  obtain ⟨g, cap, cs, rfl, h1, h2, hb, h, h3, h5⟩ := h
  intro k hk
  obtain rfl : g = k := by simpa [Value.ownBlock] using hk
  exact hb
theorem grown_litV {b0 : Nat} {o : Oper} {a : Act} {w : World} (x : Operand) (X : Value) (ho : o.op = .buildSlice 47 1 #[(0, x)]) (hx : a.eval x = X) (h1 : ∃ ax nx cx, X = .slice ax nx cx) (h0 : b0 ≤ w.heap.size) : grown Tryz.prog w (LitV b0 X) ((execOp a.eval o).run Tryz.prog w) := by
  obtain ⟨ax, nx, cx, rfl⟩ := h1
  refine grown_run (v := .slice (some ⟨w.heap.size, 0, none⟩) 1 1) (w' := w.alloc (.cells #[.slice ax nx cx] 28)) ?_ ((Kp.refl _ _).alloc _) ⟨_, rfl, h0, heap_alloc_new w _⟩
  obtain ⟨ρ, hρ, hc, hf, hg⟩ := eval_is a
  rw [hρ] at hx ⊢
  unfold execOp
  simp only [ho]
  simp [go_sem, hx]
theorem wantsG_putV {b0 : Nat} {w0 : World} {ops : Array Oper} {o : Oper} {a : Act} {w : World} (hgd : o.guard = none) (s x : Operand) (V : Value) (L : List Value) (X : Value) (ho : o.op = .call { callee := .builtin .append, args := #[s, x], argTypes := #[47, 47] })
    (hk : KV V.ownBlock.toList L.length X w0 w) (hs : a.eval s = V) (hV : RowV w0 0 V L) (hx : LitV b0 X (a.eval x) w) (hX : X.oneCell' = true) (hb : L.length ≤ 100000) (h0 : b0 ≤ w.heap.size) : wantsG (KV V.ownBlock.toList L.length X) (fun _ w => KV V.ownBlock.toList L.length X w0 w) Tryz.prog ops o a w (RowX b0 V.ownBlock.toList L X) := by
  obtain ⟨i0, hi0, hz0, hz1, hz2⟩ := info_parts Tryz.infoSl
  have hR := KV.rowv hV hk
  obtain ⟨gx, hxv, hxb, hgx⟩ := hx
  have hnews : ∀ j u, [X][j]? = some u → w.cell? ((⟨gx, 0, none⟩ : Addr).add j) = some u := fun j u hu => by
    rw [Addr.add_lit, Nat.zero_add, cell_of_row w gx j _ _ _ hgx]
    simpa using hu
  unfold wantsG
  rw [if_pos (by simp [Region.wanted, hgd])]
  have grows : ∀ (v' : Value) (w' : World), (execOp a.eval o).run Tryz.prog w = .ok (.value v') w' → w'.ownsRow w.heap.size TyB 1 v' (L.length + 1) (L ++ [X]) → w.grownBy w' none → grownG (KV V.ownBlock.toList L.length X) (fun _ w => KV V.ownBlock.toList L.length X w0 w) Tryz.prog a o.dst w (RowX b0 V.ownBlock.toList L X) ((execOp a.eval o).run Tryz.prog w) := fun v' w' hrun r1 r2 => by
    have kg : Kp [] w w' := (Kp.refl [] w).grown r2 (by intro k hk; cases hk)
    rw [hrun]
    refine ⟨⟨KV.of kg, hk.trans (KV.of kg)⟩, ?_⟩
    rcases r1.2 with ⟨_, h0'⟩ | ⟨g', cap', cur, rfl, hb', hg', q1, q2, q3, q4⟩
    · omega
    · exact ⟨g', cap', cur, rfl, q1, q2, .inr (by omega), hg', by rw [q3, Nat.mul_one], at_take q4⟩
  rcases hR.2 with ⟨rfl, hn0⟩ | ⟨g, cap, cs, rfl, hb0, hg, h1, h2, h3, h4⟩
  · have hL : L = [] := List.eq_nil_of_length_eq_zero hn0
    subst hL
    obtain ⟨v', w', hrun, r1, r2, _, _⟩ := run_append_own_at (P := Tryz.prog) w w.heap.size 47 o.type TyB i0 _ 1 24 Tryz.underlying47 hi0 hz0 hz1 hz2 rfl (by decide) (.slice none 0 0) 0 [] ⟨by simp, .inl ⟨rfl, rfl⟩⟩ ⟨gx, 0, none⟩ 1 1 [X] (by simp) hnews (by simpa using hX) (by unfold maxLen; omega) (by omega) (Nat.le_refl _)
    refine grows v' w' ?_ (by simpa using r1) (by simpa [Value.ownBlock] using r2)
    simp [execOp, ho, resolve, invoke, builtin, hs, hxv, hrun, Result.andThen]
  · rw [Nat.mul_one] at h3
    have h5 := at_take h4
    by_cases hfit : L.length + 1 ≤ cap
    · have hrun := run_append_room_cells (P := Tryz.prog) w 47 o.type TyB i0 Tryz.underlying47 hi0 g 0 L.length cap ⟨gx, 0, none⟩ 1 1 [X] (by simp [hz1]) hnews (by simpa using hX) hfit (fun j hj => by
        have : j = 0 := by simpa using hj
        subst this
        rw [hz1, Nat.zero_add, Nat.mul_one, Nat.add_zero, cell_of_row w g _ _ _ _ hg, Option.isSome_iff_exists]
        exact ⟨_, Array.getElem?_eq_getElem (by omega)⟩) (fun j hj => frozen_of_row _ _ _ _ _ hg)
      rw [hz1, Nat.zero_add, Nat.mul_one] at hrun
      obtain ⟨w2, hw2⟩ : ∃ y, y = w.setCell ⟨g, L.length, none⟩ X := ⟨_, rfl⟩
      have hset : w.setCells g L.length [X] = w2 := by rw [hw2]; rfl
      rw [hset] at hrun
      have hrun' : (execOp a.eval o).run Tryz.prog w = .ok (.value (.slice (some ⟨g, 0, none⟩) (L.length + 1) cap)) w2 := by
        simp [execOp, ho, resolve, invoke, builtin, hs, hxv, hrun, Result.andThen]
      rw [hrun']
      have g2 : w2.heap[g]? = some (.cells (cs.setIfInBounds L.length X) TyB (0, 0)) := by rw [hw2]; exact set_at hg _ _
      have k2 : Kp [g] w w2 := by rw [hw2]; exact kp_set w g _ _
      obtain ⟨cs2, hcs2⟩ : ∃ c, c = cs.setIfInBounds L.length X := ⟨_, rfl⟩
      rw [← hcs2] at g2
      have s2 : cs2.size = cs.size := by rw [hcs2]; simp
      have p2 : ∀ j, j < L.length → cs2[j]? = cs[j]? := fun j hj => by rw [hcs2, Array.getElem?_setIfInBounds_ne (by omega)]
      have e0 : cs2[L.length]? = some X := by rw [hcs2, Array.getElem?_setIfInBounds_self, if_pos (by omega)]
      have kv : KV (Value.slice (some ⟨g, 0, none⟩) L.length cap).ownBlock.toList L.length X w w2 := ⟨k2.mono (by simp [Value.ownBlock]), fun q c hqc => by
        by_cases hqg : q = g
        · subst hqg
          rw [hg] at hqc
          cases hqc
          exact ⟨cs2, g2, s2, p2, fun _ => e0⟩
        · exact ⟨c, k2.heap hqc (by simpa using hqg), rfl, fun _ _ => rfl, fun h => h⟩⟩
      refine ⟨⟨kv, hk.trans kv⟩, g, cap, cs2, rfl, hfit, h2, .inl (by simp [Value.ownBlock]), g2, by rw [s2, h3], fun j u hu => ?_⟩
      by_cases hj : j < L.length
      · rw [List.getElem?_append_left hj] at hu
        rw [p2 j hj]
        exact h5 j u hu
      · rw [List.getElem?_append_right (by omega)] at hu
        have hj2 : j - L.length < 1 := by have := (List.getElem?_eq_some_iff.1 hu).1; simpa using this
        obtain rfl : j = L.length := by omega
        rw [Nat.sub_self] at hu
        rw [e0]; exact hu
    · obtain ⟨v', w', hrun, r1, r2⟩ := run_append_arg_grows (P := Tryz.prog) w 47 o.type TyB i0 (.slice none 0 0) 1 24 Tryz.underlying47 hi0 hz0 hz1 hz2 rfl (by decide) ⟨g, 0, none⟩ L.length cap L (by simp) (fun j u hu => by rw [Addr.add_lit, Nat.zero_add, cell_of_row w g j _ _ _ hg]; exact h5 j u hu) ⟨gx, 0, none⟩ 1 1 [X] (by simp) hnews (by omega) (by unfold maxLen; omega) (by omega)
      refine grows v' w' ?_ r1 r2
      simp [execOp, ho, resolve, invoke, builtin, hs, hxv, hrun, Result.andThen]
/-- the row with one slice more, as rows of slices are known. -/
theorem RowX.rows {b0 : Nat} {li : List (Value × List Int)} {V X v : Value} {bs : List Int} {w w2 : World} (h : RowX b0 V.ownBlock.toList (li.map (·.1)) X v w2) (hV : RowsQ w 0 V li) (k : KV V.ownBlock.toList (li.map (·.1)).length X w w2) (hb : w.heap.size ≤ b0) (hS : Sl w X bs) (hB : Bs bs) (hap : ∀ i, X.ownBlock = some i → V.ownBlock ≠ some i) : RowsQ w2 0 v (li ++ [(X, bs)]) ∧ RStep w V w2 v := by
  have st : RStep w V w2 v := ⟨k.kp, fun i hi => by
    rcases h.own i hi with e | e
    · exact .inl (by simpa [Option.mem_toList] using e)
    · exact .inr (by omega)⟩
  have r := h.row
  obtain ⟨ao, m, c, rfl⟩ : ∃ ao m c, v = .slice ao m c := by obtain ⟨ao, c, e⟩ := r.shape; exact ⟨ao, _, c, e⟩
  exact ⟨⟨hV.1.snocJ (x := (X, bs)) hS hB (fun i h1 h2 => absurd h2 (hap i h1)) r st, fun y hy i hi => Nat.zero_le _⟩, st⟩
end Go.Proofs.YteabdojjllfcpaaGreat

/-
  The law's world beside a front, its ledger and their disks: what stays while they step; power comes back, both are opened anew.
-/
namespace Go.Proofs.YteabdojjllfcpaaGreat
open Go.RowKit
open Go.Proofs
open Go.Deep Go.ChangeShapes Go.WideShapes
set_option linter.unusedVariables false
section
variable {H : Type} {enc : TypeId × Value → H} {w : World}
end
/-- the slice of the three disks. -/
def Tri3 (w : World) (b pd pl pk : Nat) : Prop := w.heap[b]? = some (.cells #[.pointer (some ⟨pd, 0, none⟩), .pointer (some ⟨pl, 0, none⟩), .pointer (some ⟨pk, 0, none⟩)] 26 (0, 0))
/-- three numbers in a box. -/
def Box3 (w : World) (b : Nat) (x0 x1 x2 : Int) : Prop := w.heap[b]? = some (.cells #[.int .i64 x0, .int .i64 x1, .int .i64 x2] 43 (0, 0))
def pick3 {α : Type} (k : Nat) (a b c : α) : α := if k = 0 then a else if k = 1 then b else c
theorem Tri3.cell {w : World} {b pd pl pk : Nat} (h : Tri3 w b pd pl pk) (k : Nat) (hk : k < 3) : w.cell? ⟨b, k, none⟩ = some (.pointer (some ⟨pick3 k pd pl pk, 0, none⟩)) := by
  rcases (by omega : k = 0 ∨ k = 1 ∨ k = 2) with rfl | rfl | rfl <;> (rw [cell_of_row w b _ _ _ _ h]; rfl)
theorem Box3.cell {w : World} {b : Nat} {x0 x1 x2 : Int} (h : Box3 w b x0 x1 x2) (k : Nat) (hk : k < 3) : w.cell? ⟨b, k, none⟩ = some (.int .i64 (pick3 k x0 x1 x2)) := by
  rcases (by omega : k = 0 ∨ k = 1 ∨ k = 2) with rfl | rfl | rfl <;> (rw [cell_of_row w b _ _ _ _ h]; rfl)
/-- the law's own things, beside the blocks G: its world, its slice of disks, the texts that it gathers. -/
structure Sd (w0 w : World) (G : Nat → Prop) (x : Nat) (vf vl : Value) (pd pl pk : Nat) (vw : Value) (bd : Nat) (got : Value) (la : List (Value × List Int)) : Prop where
  at_ : Wd w x vf vl (.pointer (some ⟨pd, 0, none⟩)) (.pointer (some ⟨pl, 0, none⟩)) (.pointer (some ⟨pk, 0, none⟩)) 8 3 5 vw (.slice none 0 0) (.slice none 0 0)
  nx : ¬ G x
  tri : Tri3 w bd pd pl pk
  nb : ¬ G bd
  al : Al w0 w (fun i => G i ∨ i = x ∨ i = bd) got la
  low : ∀ i, G i → i < w.heap.size
section
variable {w0 w w' : World} {G G' : Nat → Prop} {x p l pd pl pk bd : Nat} {vf vl vw got got' : Value} {la : List (Value × List Int)}
theorem Sd.step (h : Sd w0 w G x vf vl pd pl pk vw bd got la) (T : Stp G w w' G') (hlow : ∀ i, G' i → i < w'.heap.size) : Sd w0 w' G' x vf vl pd pl pk vw bd got la := by
  obtain ⟨U, hU, k⟩ := T.kp
  have hbl : bd < w.heap.size := (Array.getElem?_eq_some_iff.1 h.tri).1
  exact ⟨h.at_.kept k (fun hm => h.nx (hU x hm)), T.off h.at_.lt h.nx, k.heap h.tri (fun hm => h.nb (hU bd hm)), T.off hbl h.nb, h.al.step (T.side _), hlow⟩
theorem Sd.on (h : Sd w0 w G x vf vl pd pl pk vw bd got la) (k : Kp [] w w') : Sd w0 w' G x vf vl pd pl pk vw bd got la := h.step (Stp.mid k) (fun i hi => Nat.lt_of_lt_of_le (h.low i hi) k.size)
theorem Sd.lows (h : Sd w0 w G x vf vl pd pl pk vw bd got la) : ∀ i, (G i ∨ i = x ∨ i = bd) → i < w.heap.size := by
  rintro i (hi | rfl | rfl)
  · exact h.low i hi
  · exact h.at_.lt
  · exact (Array.getElem?_eq_some_iff.1 h.tri).1
/-- one more text. -/
theorem Sd.put {y : Value × List Int} (h : Sd w0 w G x vf vl pd pl pk vw bd got la) (r : RowsQ w' w0.heap.size got' (la ++ [y])) (s : RStep w got w' got') (hy : ∀ k, y.1.ownBlock = some k → k < w.heap.size ∧ ¬ (G k ∨ k = x ∨ k = bd)) : Sd w0 w' G x vf vl pd pl pk vw bd got' (la ++ [y]) := by
  have hm : ∀ i, (G i ∨ i = x ∨ i = bd) → i ∉ got.ownBlock.toList := fun i hi hm => (h.al.own i (by simpa [Option.mem_toList] using hm)).2 hi
  exact ⟨h.at_.kept s.1 (hm x (.inr (.inl rfl))), h.nx, s.1.heap h.tri (hm bd (.inr (.inr rfl))), h.nb, h.al.put h.lows r s hy, fun i hi => Nat.lt_of_lt_of_le (h.low i hi) s.1.size⟩
end
section
variable {w0 w w' : World} {x p l pd pl pk : Nat} {d dd dk : Dk} {F : Nat → Prop} {f : Fps}
end
section
variable {w0 w w' : World} {x p l pd pl pk : Nat} {d dd dk : Dk} {F : Nat → Prop} {f : Fps}
end
section
variable {w0 w w' : World} {x p l pd pl pk : Nat} {g f : Fps} {vw : Value}
end
end Go.Proofs.YteabdojjllfcpaaGreat
