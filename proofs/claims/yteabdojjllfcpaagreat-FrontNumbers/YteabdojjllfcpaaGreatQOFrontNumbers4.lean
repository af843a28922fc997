/-
  Plain facts on the four bytes of a number: they make the number, and they stand in order as the numbers do.
-/
import Derived.Test.YteabdojjllfcpaaGreatQOFrontNumbers3
import Derived.Test.YteabdojjllfcpaaGreatQC15
import Derived.Test.YteabdojjllfcpaaGreatQOFrontNumbers2
namespace Go.Proofs.YteabdojjllfcpaaGreat
open Go.RowKit
theorem toNat_of (x : Int) (h0 : 0 ≤ x) (h1 : x ≤ 255) : ((UInt8.ofNat x.toNat).toNat : Int) = x := by
  simp; omega
theorem str_toList (bs : List Int) : (strOfNums bs).toList = bs.map fun n => UInt8.ofNat n.toNat := by
  rw [ByteArray.toList_eq]; rfl
theorem of_eq (x y : Int) (hx : 0 ≤ x ∧ x ≤ 255) (hy : 0 ≤ y ∧ y ≤ 255) : (UInt8.ofNat x.toNat = UInt8.ofNat y.toNat) ↔ x = y := by
  constructor
  · intro h
    have := toNat_of x hx.1 hx.2
    have := toNat_of y hy.1 hy.2
    rw [h] at *
    omega
  · intro h; rw [h]
theorem str_inj (bs cs : List Int) (hb : Bs bs) (hc : Bs cs) (h : (strOfNums bs).toList = (strOfNums cs).toList) : bs = cs := by
  rw [str_toList, str_toList] at h
  induction bs generalizing cs with
  | nil => cases cs with
    | nil => rfl
    | cons c cs => simp at h
  | cons b bs ih => cases cs with
    | nil => simp at h
    | cons c cs =>
      simp only [List.map_cons, List.cons.injEq] at h
      rw [(of_eq b c (hb b (by simp)) (hc c (by simp))).1 h.1, ih cs (fun x hx => hb x (by simp [hx])) (fun x hx => hc x (by simp [hx])) h.2]
theorem str_beq (bs cs : List Int) (hb : Bs bs) (hc : Bs cs) : ((strOfNums bs).toList == (strOfNums cs).toList) = decide (bs = cs) := by
  rw [Bool.eq_iff_iff]
  simp only [beq_iff_eq, decide_eq_true_eq]
  exact ⟨str_inj bs cs hb hc, fun h => by rw [h]⟩
end Go.Proofs.YteabdojjllfcpaaGreat

/-
  Chapter 15 as plain functions: items each once, their numbers, a batch as a record, what a journal's records hold.
-/
namespace Go.Proofs.YteabdojjllfcpaaGreat
open Go.RowKit
open Go.Proofs
theorem itsU_bat (l : List (List Int)) (h : ∀ x ∈ l, x.length ≤ 65535) : itsU l.length (l.map itmU).flatten = some l := by
  induction l with
  | nil => rfl
  | cons x l ih =>
    have e := tkb_front x ((l.map itmU).flatten) 65535 (h x (by simp)) (by omega)
    have e2 : (((x :: l).map itmU).flatten) = (be2 x.length ++ x) ++ (l.map itmU).flatten := rfl
    rw [e2]
    show itsU (l.length + 1) _ = _
    unfold itsU
    rw [show ((65535 : Nat) : Int) = 65535 from rfl] at e
    rw [e, if_neg (by simp)]
    simp only [ih (fun y hy => h y (by simp [hy])), Option.map_some]
theorem unlU_bat {l : List (List Int)} (h : ∀ x ∈ l, x.length ≤ 65535) (h0 : l ≠ []) (hl : l.length ≤ 4294967295) : unlU (batU l) = some l := by
  have e1 : (batU l).take 4 = bq l.length := by unfold batU; rw [List.take_left' (bq_len _)]
  have e2 : (batU l).drop 4 = (l.map itmU).flatten := by unfold batU; rw [List.drop_left' (bq_len _)]
  have e3 : (batU l).length = 4 + ((l.map itmU).flatten).length := by unfold batU; rw [List.length_append, bq_len]
  have e4 : val (bq (l.length : Int)) = l.length := val_bq (by omega) (by omega)
  have h1 : 0 < l.length := List.length_pos_iff.2 h0
  unfold unlU
  rw [if_neg (by omega), e1, e2, e4, if_neg (by simp; omega)]
  exact itsU_bat l h
theorem gatU_add {rs l xs : List (List Int)} (h : gatU [] rs = some l) (hn : (l ++ xs).Nodup) (h0 : xs ≠ []) (hs : ∀ x ∈ xs, x.length ≤ 65535) (hl : xs.length ≤ 4294967295) : gatU [] (rs ++ [batU xs]) = some (l ++ xs) := by
  rw [gatU_snoc, h]
  simp only [Option.bind_some, gatU]
  rw [unlU_bat hs h0 hl]
  simp only []
  rw [if_pos hn]
end Go.Proofs.YteabdojjllfcpaaGreat

/-
  The contracts of package disk's small functions: count, told, keep, New, Size, Synced, Down, Arm, Grow, Bytes.
-/
namespace Go.Proofs.YteabdojjllfcpaaGreat
open Go.RowKit
open Go.Proofs
theorem Dk.Fit.grows {d : Dk} (h : d.Fit) (n : Int) : (d.grow n).2.Fit := by
  have := Dk.grow_ok h.ok n
  unfold Dk.grow at *
  split
  · rename_i hd
    rw [if_pos hd] at this
    exact ⟨this, h.lo, h.hi, h.dn, h.bytes⟩
  · exact h
end Go.Proofs.YteabdojjllfcpaaGreat

/-
  The contracts of package disk: Bytes, keep, Append, Sync, Cut, Crash.
-/
namespace Go.Proofs.YteabdojjllfcpaaGreat
open Go.RowKit
open Go.Proofs
theorem keep_at (p : Nat) (ao : Option Addr) (m c : Nat) (d : Dk) (n : Nat) (base : Nat) (w : World) (h : DskP w base p (.slice ao m c) d) (hn : n ≤ d.bs.length) (x : Int) (hx : x = (n : Int)) :
    Calls Tryz.prog 62 #[.pointer (some ⟨p, 0, none⟩), .int .i64 x] w fun e w' => e = .returned (.tuple #[]) ∧ DskP w' base p (.slice ao n c) { d with bs := d.bs.take n, syn := n } ∧ DSt p w (.slice ao m c) w' (.slice ao n c) := by
  subst hx
  exact keep_any p ao m c d n base w h hn
theorem Dk.crash_kept {d : Dk} (h : d.Ok) (keep : Int) : d.crash keep = { d with bs := d.bs.take (d.left keep), syn := d.left keep, arm := 0, down := false } := by
  have := Dk.left_le h keep
  unfold Dk.crash
  rw [show min (d.left keep) d.bs.length = d.left keep from by omega]
theorem Dk.Fit.crashed {d : Dk} (h : d.Fit) (keep : Int) : (d.crash keep).Fit :=
  ⟨Dk.crash_ok h.ok keep, by simp [Dk.crash], by simp [Dk.crash], fun _ => rfl, fun b hb => h.bytes b (List.mem_of_mem_take hb)⟩
set_option maxHeartbeats 2000000 in
theorem dcrash_any (p : Nat) (v : Value) (d : Dk) (keep : Int) (base : Nat) (w : World) (h : DskP w base p v d) :
    Calls Tryz.prog 25 #[.pointer (some ⟨p, 0, none⟩), .int .i64 keep] w fun e w' => e = .returned (.tuple #[]) ∧ ∃ v', DskP w' base p v' (d.crash keep) ∧ DSt p w v w' v' := by
  have hc0 := h.here.c0
  have hc1 := h.here.c1
  have ok1 := h.fit.ok.syn
  have ok2 := h.fit.ok.fits
  have ok3 := h.fit.ok.lim
  have hcr := Dk.crash_kept h.fit.ok keep
  have hle := Dk.left_le h.fit.ok keep
  obtain ⟨av, cv, ev⟩ := h.shape
  obtain ⟨k, hk⟩ : ∃ k, k = d.bs.length := ⟨_, rfl⟩
  obtain ⟨s, hs⟩ : ∃ s, s = d.syn := ⟨_, rfl⟩
  rw [← hk] at ev ok1 ok2
  rw [← hs] at hc1 ok1
  subst ev
  have hk2 : (k : Int) ≤ 1048576 := by omega
  have hsk : (s : Int) ≤ (k : Int) := by omega
  obtain ⟨j, hj⟩ : ∃ j, j = d.left keep := ⟨_, rfl⟩
  have hjv : (j : Int) = s + min (max keep 0) ((k : Int) - s) := by
    rw [hj]; unfold Dk.left; rw [← hk, ← hs]; omega
  rw [← hj] at hcr hle
  have HK := hide (fun w' (h' : DskP w' base p (.slice av k cv) d) (x : Int) (hx : x = (j : Int)) => keep_at p av k cv d j base w' h' hle x hx)
  have HF := hide (h.fit.crashed keep)
  have HCR := hide hcr
  have HD := hide (h.keptN (kp_drew w))
  have y1 := HD.out.here.c1
  rw [← hs] at y1
  have T1 : Hid (DSt p w (.slice av k cv) w.drew (.slice av k cv)) := DSt.mid _ (kp_drew w)
  clear h hcr hj hk hs hle ok1 ok2 ok3
  have h3 : keep < 0 ∨ (¬ keep < 0 ∧ keep ≤ (k : Int) - s) ∨ (¬ keep < 0 ∧ ¬ keep ≤ (k : Int) - s) := by omega
  rcases h3 with h3 | ⟨h3, h4⟩ | ⟨h3, h4⟩
  all_goals
    go_enter Tryz.func25, Tryz.ntmps25
    go_wp2_with fail
    refine region_read Tryz.mixed (by kernel_rfl) ?_
    repeat (first | go_big_quiet_skip | (go_big_quiet_want; go_big_quiet_op; go_big_quiet_on))
    refine wpQuiet_nil ?_
    generalize w.drew = w1 at *
    go_wp2_with (first
      | (go_at_call 62; go_loud (refine (HK.out w1 HD.out _ (by first | omega | (unfold wrap64; omega))).mono ?_); rintro e w2 ⟨rfl, D2, T2⟩; clear HK; have g2 := D2.here; unfold Fv at g2; have HD2 := hide D2; have HT2 := hide T2; clear D2 T2)
      | (refine wpList_store_flat rfl 106 (.tmp 29) (.tmp 27) rfl p 3 rfl _ _ [.int .i64 0, .bool false] g2 rfl (by simp) (by kernel_rfl) (by simp [Value.oneCell']) #[.slice av j cv, .int .i64 j, .int .i64 d.lim, .int .i64 0, .bool false] (by simp [putAll]) ?_; intro w3 g3 k3))
    go_end0
    rw [HCR.out]
    have hf := HF.out
    rw [HCR.out] at hf
    exact ⟨rfl, _, HD2.out.poke k3 g3 rfl hf, (T1.out.trans HT2.out).trans (DSt.one _ k3)⟩
end Go.Proofs.YteabdojjllfcpaaGreat

/-
  A new disk and its steps, as the law package takes them; Cut of the law package by its value; known.
-/
namespace Go.Proofs.YteabdojjllfcpaaGreat
open Go.RowKit
open Go.Proofs
theorem sl_nlen {w : World} {a : Option Addr} {l c : Nat} {bs : List Int} (h : Sl w (.slice a l c) bs) : l = bs.length := by
  obtain ⟨ao, c', e, _⟩ := h
  injection e with e1 e2 e3
theorem cutv_any (a : Option Addr) (l c : Nat) (n : Nat) (bs : List Int) (w : World) (h : Sl w (.slice a l c) bs) :
    Calls Tryz.prog 49 #[.slice a l c, .int .i64 n] w fun e w' => e = .returned (.slice a (min l n) c) ∧ w' = w := by
  have hl := sl_nlen h
  obtain ⟨ao, c', e, h1, h2, h3, h4⟩ := h
  injection e with e1 e2 e3
  subst e1
  subst e3
  unfold maxLen at h2
  clear h4 h3 e2
  by_cases hn : n < l
  · have hlt : (n : Int) < (l : Int) := by omega
    have hc : (n : Int) ≤ (c : Int) := by omega
    rw [show min l n = n from by omega]
    clear hl h1 h2
    go_enter Tryz.func49, Tryz.ntmps49
    go_wp2_with fail
    go_ret
    exact ⟨rfl, rfl⟩
  · have hlt : ¬ (n : Int) < (l : Int) := by omega
    rw [show min l n = l from by omega]
    clear hl h1 h2
    go_enter Tryz.func49, Tryz.ntmps49
    go_wp2_with fail
    go_ret
    exact ⟨rfl, rfl⟩
theorem cutv_sl {w : World} {a : Option Addr} {l c : Nat} {bs : List Int} (n : Nat) (h : Sl w (.slice a l c) bs) : Sl w (.slice a (min l n) c) (bs.take n) := by
  have hl := sl_nlen h
  by_cases hn : n ≤ bs.length
  · rw [show min l n = n from by omega]; exact h.take n hn
  · rw [show min l n = l from by omega, List.take_of_length_le (by omega)]; exact h
namespace Dk
end Dk
section
variable {w0 w w' : World} {p : Nat} {v v' : Value} {d d' : Dk}
theorem nw_crash (h : Nw w0 w p v d) (n : Int) (he : d.crash n = d') : Calls Tryz.prog 25 #[.pointer (some ⟨p, 0, none⟩), .int .i64 n] w fun e w' => e = .returned (.tuple #[]) ∧ ∃ v', Nw w0 w' p v' d' ∧ DSt p w v w' v' := by
  refine (dcrash_any p v d n w0.heap.size w h.dk).mono ?_
  rintro e w' ⟨rfl, v', D, T⟩
  rw [he] at D
  exact ⟨rfl, v', h.step D T (by rw [← he]; exact Int.le_refl 0), T⟩
end
end Go.Proofs.YteabdojjllfcpaaGreat

/-
  The contracts of the reference reader over this seat's program: Raw, Number, Bytes, End, Left, by the same plain function of what is left as the program's own reader.
-/
namespace Go.Proofs.YteabdojjllfcpaaGreat
open Go.RowKit
theorem cell_of_three {w : World} {b : Nat} {v u x : Value} {t : TypeId} (h : w.heap[b]? = some (.cells #[v, u, x] t (0, 0))) : w.cell? ⟨b, 0, none⟩ = some v ∧ w.cell? ⟨b, 1, none⟩ = some u ∧ w.cell? ⟨b, 2, none⟩ = some x :=
  ⟨by rw [cell_of_row w b 0 _ t _ h]; rfl, by rw [cell_of_row w b 1 _ t _ h]; rfl, by rw [cell_of_row w b 2 _ t _ h]; rfl⟩
theorem three_setCell1 {w : World} {b : Nat} {v u x y : Value} {t : TypeId} (h : w.heap[b]? = some (.cells #[v, u, x] t (0, 0))) : (w.setCell ⟨b, 1, none⟩ y).heap[b]? = some (.cells #[v, y, x] t (0, 0)) := by
  have hlt := lt_of_block h
  have h' : w.heap[b] = .cells #[v, u, x] t (0, 0) := by simpa [Array.getElem?_eq_getElem hlt] using h
  show (w.heap.modify b _)[b]? = _
  rw [Array.getElem?_eq_getElem (by simpa using hlt), Array.getElem_modify_self, h']
  rfl
theorem three_setCell2 {w : World} {b : Nat} {v u x y : Value} {t : TypeId} (h : w.heap[b]? = some (.cells #[v, u, x] t (0, 0))) : (w.setCell ⟨b, 2, none⟩ y).heap[b]? = some (.cells #[v, u, y] t (0, 0)) := by
  have hlt := lt_of_block h
  have h' : w.heap[b] = .cells #[v, u, x] t (0, 0) := by simpa [Array.getElem?_eq_getElem hlt] using h
  show (w.heap.modify b _)[b]? = _
  rw [Array.getElem?_eq_getElem (by simpa using hlt), Array.getElem_modify_self, h']
  rfl
theorem rr_bad {w : World} {q : Nat} {v : Value} {i : Nat} {bad : Bool} {B : List Int} (h : RR w q v i bad B) : RR (w.setCell ⟨q, 2, none⟩ (.bool true)) q v i true B ∧ Kp [q] w (w.setCell ⟨q, 2, none⟩ (.bool true)) := by
  have k : Kp [q] w (w.setCell ⟨q, 2, none⟩ (.bool true)) := (Kp.refl [q] w).setCell (p := ⟨q, 2, none⟩) (.inl (by simp)) _
  exact ⟨⟨three_setCell2 h.1, h.2.1.kept k (fun j hj hm => by simp only [List.mem_singleton] at hm; subst hm; exact h.2.2.1 hj), h.2.2.1, h.2.2.2⟩, k⟩
theorem rr_go {w : World} {q : Nat} {v : Value} {i : Nat} {bad : Bool} {B : List Int} (h : RR w q v i bad B) (j : Nat) (hj : j ≤ B.length) : RR (w.setCell ⟨q, 1, none⟩ (.int .i64 j)) q v j bad B ∧ Kp [q] w (w.setCell ⟨q, 1, none⟩ (.int .i64 j)) := by
  have k : Kp [q] w (w.setCell ⟨q, 1, none⟩ (.int .i64 j)) := (Kp.refl [q] w).setCell (p := ⟨q, 1, none⟩) (.inl (by simp)) _
  exact ⟨⟨three_setCell1 h.1, h.2.1.kept k (fun j hj hm => by simp only [List.mem_singleton] at hm; subst hm; exact h.2.2.1 hj), h.2.2.1, hj⟩, k⟩
theorem rest_tk (i : Nat) (B : List Int) (n : Nat) (h : i + n ≤ B.length) : tk false (B.drop i) n = ((B.drop i).take n, false, B.drop (i + n)) := by
  rw [tk_ok false _ n (by rw [List.length_drop]; omega), List.drop_drop]
set_option maxRecDepth 100000 in
set_option maxHeartbeats 2000000 in
theorem rraw_any (q : Nat) (v : Value) (i : Nat) (bad : Bool) (B : List Int) (n : Int) (w : World) (hR : RR w q v i bad B) (hb : B.length ≤ 140737488355328) (hn : -9223372036854775808 ≤ n ∧ n ≤ 9223372036854775807) :
    Calls Tryz.prog 105 #[.pointer (some ⟨q, 0, none⟩), .int .i64 n] w fun e w' => ∃ ao m c, e = .returned (.slice ao m c) ∧ Own w w' (.slice ao m c) (tk bad (rest i bad B) n).1 ∧ RLeft w q v B (tk bad (rest i bad B) n).2 w' := by
  obtain ⟨ao, c, rfl, h1, h2, h3, h4⟩ := hR.2.1
  obtain ⟨hc0, hc1, hc2⟩ := cell_of_three hR.1
  have hf := free_of_two hR.1
  have hf1 := hf 1
  have hf2 := hf 2
  have hi := hR.2.2.2
  clear hf h4
  have hi1 : (0 : Int) ≤ (i : Int) := by omega
  have hi2 : (i : Int) ≤ (B.length : Int) := by omega
  cases bad with
  | true =>
    have hB := rr_bad hR
    have ht : tk true (rest i true B) n = ([], true, []) := by
      show tk true [] n = _
      unfold tk; split <;> simp
    rw [ht]
    go_enter Tryz.func105, Tryz.ntmps105
    go_wp2_with fail
    go_quiet (fail)
    go_wp2_with fail
    go_ret
    exact ⟨none, 0, 0, rfl, ⟨Sl.nil _, by intro k hk; cases hk⟩, i, true, hB.1.kept (kp_drewN _ _) (by simp) (by simp), rfl, hB.2.trans ((kp_drewN _ _).mono (by simp))⟩
  | false =>
    have hr : rest i false B = B.drop i := rfl
    rw [hr]
    by_cases hn0 : n < 0
    · have hB := rr_bad hR
      rw [tk_no false _ n (.inl hn0)]
      have hd : decide (n < 0) = true := by simpa using hn0
      go_enter Tryz.func105, Tryz.ntmps105
      go_wp2_with fail
      go_quiet (fail)
      go_wp2_with fail
      go_ret
      exact ⟨none, 0, 0, rfl, ⟨Sl.nil _, by intro k hk; cases hk⟩, i, true, hB.1.kept (kp_drewN _ _) (by simp) (by simp), rfl, hB.2.trans ((kp_drewN _ _).mono (by simp))⟩
    · obtain ⟨m, rfl⟩ := Int.eq_ofNat_of_zero_le (show 0 ≤ n by omega)
      have hd : decide ((m : Int) < 0) = false := by simp
      by_cases hbig : B.length - i < m
      · have hB := rr_bad hR
        rw [tk_no false _ m (.inr (by rw [List.length_drop]; omega))]
        have hd2 : decide ((B.length : Int) - (i : Int) < (m : Int)) = true := by simp; omega
        have hd3 : (B.length : Int) - (i : Int) < (m : Int) := by omega
        go_enter Tryz.func105, Tryz.ntmps105
        go_wp2_with fail
        go_quiet (fail)
        go_wp2_with fail
        go_ret
        exact ⟨none, 0, 0, rfl, ⟨Sl.nil _, by intro k hk; cases hk⟩, i, true, hB.1.kept (kp_drewN _ _) (by simp) (by simp), rfl, hB.2.trans ((kp_drewN _ _).mono (by simp))⟩
      · have hG := rr_go hR (i + m) (by omega)
        rw [rest_tk i B m (by omega)]
        have hd2 : decide ((B.length : Int) - (i : Int) < (m : Int)) = false := by simp; omega
        have hd3 : ¬ (B.length : Int) - (i : Int) < (m : Int) := by omega
        go_enter Tryz.func105, Tryz.ntmps105
        go_wp2_with fail
        go_quiet (fail)
        go_wp2_with fail
        have G : RR ((w.drewN nq).setCell ⟨q, 1, none⟩ (.int .i64 ((i : Int) + (m : Int)))) q (.slice ao B.length c) (i + m) false B ∧ Kp [q] w ((w.drewN nq).setCell ⟨q, 1, none⟩ (.int .i64 ((i : Int) + (m : Int)))) := by
          have e : ((i + m : Nat) : Int) = (i : Int) + (m : Int) := by omega
          rw [← e]
          exact ⟨hG.1.kept (kp_drewN _ nq) (by simp) (by simp), hG.2.trans ((kp_drewN _ nq).mono (by simp))⟩
        clear hG hc0 hc1 hc2 hf1 hf2 hd hd2 hd3 hR hr
        generalize (w.drewN nq).setCell ⟨q, 1, none⟩ (.int .i64 ((i : Int) + (m : Int))) = W at G ⊢
        obtain ⟨gR, gK⟩ := G
        obtain ⟨hc0, hc1, hc2⟩ := cell_of_three gR.1
        have hc1' : W.cell? ⟨q, 1, none⟩ = some (.int .i64 ((i : Int) + (m : Int))) := by rw [hc1]; rfl
        have hq := lt_of_block gR.1
        have hlo : (i : Int) + (m : Int) ≤ (c : Int) := by omega
        have h2' : (c : Int) ≤ 9223372036854775807 := by unfold maxLen at h2; omega
        have hw1 : IntKind.i64.wrap ((i : Int) + (m : Int) - (m : Int)) = i := by simp [IntKind.wrap, IntKind.signed, IntKind.bits]; omega
        have hw2 : IntKind.i64.wrap (i : Int) = i := by simp [IntKind.wrap, IntKind.signed, IntKind.bits]; omega
        have hne1 := World.new_ne W ⟨q, 0, none⟩ hc0
        have hne2 := World.new_ne W ⟨q, 1, none⟩ hc1
        obtain ⟨X, hX⟩ : ∃ X, X = if c = i then ao else ao.map (·.add i) := ⟨_, rfl⟩
        obtain ⟨cs, hcs⟩ : ∃ cs, cs = (B.drop i).take m := ⟨_, rfl⟩
        have hcl : cs.length ≤ 140737488355328 := by rw [hcs, List.length_take, List.length_drop]; omega
        have hS : Sl W (.slice X m (c - i)) cs := by
          rw [hX, hcs]
          exact (gR.2.1.drop i hi).take m (by rw [List.length_drop]; omega)
        have hrs : ∀ w', (Instr.slice 28 (.slice ao B.length c) (some (.int .i64 (i : Int))) (some (.int .i64 ((i : Int) + (m : Int)))) none).run Tryz.prog w' = .ok (.slice X m (c - i)) w' := fun w' => by
          rw [run_slice_lh (P := Tryz.prog) w' 28 ao B.length c (by kernel_rfl) .i64 .i64 _ _ (by omega) (by omega) (by omega)]
          rw [hX]
          have e1 : ((i : Int) + (m : Int)).toNat = i + m := by omega
          obtain ⟨i0, hi0, hz0, hz1, hz2⟩ := info_parts Tryz.info5
          simp [sizeOf, typeInfo, show Tryz.prog.elem 28 = 5 from by kernel_rfl, sliced, e1, hi0, hz1, Result.andThen]
        have hrow0 : Row (W.alloc (.cells #[] 5)).drew W.heap.size (.slice (some ⟨W.heap.size, 0, none⟩) 0 0) [] := (World.ownsRow_made W #[] 0 (Nat.le_refl _) (by simp [maxLen]) rfl).drew
        have hSa : Sl (W.alloc (.cells #[] 5)).drew (.slice X m (c - i)) cs := hS.kept (((Kp.refl [] W).alloc _).drew) (by simp)
        have HF : Hid ((B.drop i).take m = cs) := hcs.symm
        have HS := hide hS
        have HR := hide gR
        clear hc1 hc2 h2 hX hcs hS gR
        go_region_held3 (fun w' => w'.cell? ⟨q, 0, none⟩ = some (.slice ao B.length c) ∧ w'.cell? ⟨q, 1, none⟩ = some (.int .i64 ((i : Int) + (m : Int))))
          (first
            | go_keep
            | (go_split_ands
               refine ⟨?_, ?_⟩
               · exact s1.1.cell (by assumption) (by simp [Value.ownBlock]; omega)
               · exact s1.1.cell (by assumption) (by simp [Value.ownBlock]; omega)))
          ((refine step_append_row (by rfl) (.tmp 39) (.tmp 54) (by rfl) W.heap.size _ [] (by rfl) hrow0 _ cs (by rfl) hSa (by simpa using hcl) (by simp) ?_; intro ao2 m2 c2 w1 r1 s1))
        go_wp2_with fail
        go_ret
        rw [unhide HF]
        have kW : Kp [] W w1 := (((Kp.refl [] W).alloc (.cells #[] 5)).drew).then s1.1 (fun k hk => by simp [Value.ownBlock] at hk; exact .inr (by omega))
        exact ⟨ao2, m2, c2, rfl, ⟨by simpa using r1.sl, fun k hk => Nat.le_trans gK.size (World.ownsRow.lt r1 k hk).1⟩, i + m, false, (unhide HR).kept kW (by simp) (by simp), rfl, gK.trans (kW.mono (by simp))⟩
theorem rest_bs {i : Nat} {bad : Bool} {B : List Int} (h : Bs B) : Bs (rest i bad B) := by
  unfold rest; split
  · intro b hb; cases hb
  · exact h.drop _
set_option maxHeartbeats 400000 in
theorem rnumb_any (q : Nat) (v : Value) (i : Nat) (bad : Bool) (B : List Int) (n : Nat) (w : World) (hR : RR w q v i bad B) (hb : B.length ≤ 140737488355328) (h4 : n ≤ 4) (hB : Bs B) :
    Calls Tryz.prog 103 #[.pointer (some ⟨q, 0, none⟩), .int .i64 n] w fun e w' => e = .returned (.int .u32 (val (tk bad (rest i bad B) n).1)) ∧ RLeft w q v B (tk bad (rest i bad B) n).2 w' := by
  have hBc : Bs (tk bad (rest i bad B) n).1 := tk_bs1 (rest_bs hB)
  have hl4 : (tk bad (rest i bad B) n).1.length ≤ 4 := Nat.le_trans tk_len1 h4
  obtain ⟨cs, hcs⟩ : ∃ cs, cs = (tk bad (rest i bad B) n).1 := ⟨_, rfl⟩
  go_enter Tryz.func103, Tryz.ntmps103
  go_wp2_with fail
  refine (rraw_any q v i bad B n _ hR hb (by omega)).mono ?_
  rintro e w1 ⟨ao, m, c, rfl, hO, hL⟩
  rw [← hcs] at hO hBc hl4
  have HC := hide hcs
  have HL := hide hL
  have hS := hO.1
  clear hcs hL hR hO
  obtain ⟨ao', c', he, hS1, hS2, hS3, hS4⟩ := hS
  injection he with e1 e2 e3
  subst e1 e2 e3
  go_wp2_with fail
  go_loop [5, 12] (fun x j => ∃ k : Nat, k ≤ cs.length ∧ j = .int .i64 k ∧ x = .int .u32 (val (cs.take k))) (fun _ j => cs.length - (intOf j).toNat)
  case atStart => exact ⟨0, Nat.zero_le _, rfl, rfl⟩
  case round =>
    obtain ⟨k, hk, rfl, rfl⟩ := hrel
    by_cases hlt : k < cs.length
    · have hSl : Sl w1 (.slice ao cs.length c) cs := ⟨ao, c, rfl, hS1, hS2, hS3, hS4⟩
      obtain ⟨b, off, rfl, _, hcell⟩ := hSl.at2 (by omega)
      have hc := hcell k hlt
      have hb1 := hBc cs[k] (List.getElem_mem hlt)
      have hvb := val_bd (cs.take k) (hBc.take k)
      have hlen : (cs.take k).length ≤ 3 := by simp; omega
      have hv1 := val_small (cs.take k) (hBc.take k) hlen
      obtain ⟨x, hx⟩ : ∃ x, x = val (cs.take k) := ⟨_, rfl⟩
      obtain ⟨y, hy⟩ : ∃ y, y = cs[k] := ⟨_, rfl⟩
      have HX : Hid (val (cs.take (k + 1)) = x * 256 + y) := by rw [hx, hy]; exact val_take_succ cs k hlt
      rw [← hx] at hvb hv1
      rw [← hx]
      rw [← hy] at hc hb1
      obtain ⟨hb1, hb2⟩ := hb1
      obtain ⟨hx0, _⟩ := hvb
      have hor := bits_or_byte x y hx0 hv1 hb1 hb2
      clear hx hy hlen hBc hcell hSl hS3 hS4
      go_wp2
      go_round
      case rel => exact ⟨k + 1, by omega, by go_num, by rw [HX.out]⟩
      case measure => simp [intOf]; omega
    · obtain rfl : k = cs.length := by omega
      clear hS3 hS4
      go_wp2
      go_ret
      exact ⟨congrArg (fun l => Ending.returned (.int .u32 (val l))) (unhide HC), unhide HL⟩
end Go.Proofs.YteabdojjllfcpaaGreat

/-
  The contracts of package journal: Open, Put, Sync, Add, Count.
-/
namespace Go.Proofs.YteabdojjllfcpaaGreat
open Go.RowKit
open Go.Proofs
namespace Dk
end Dk
theorem open_nil (w : World) : Calls Tryz.prog 32 #[.pointer none] w fun e w' => e = .returned (.tuple #[.pointer none, .slice none 0 0, .int .i64 1]) ∧ w' = w := by
  go_enter Tryz.func32, Tryz.ntmps32
  go_wp2_with fail
  go_ret3
  exact ⟨rfl, rfl⟩
end Go.Proofs.YteabdojjllfcpaaGreat

/-
  The reference's Record and Open; the law's lay.
-/
namespace Go.Proofs.YteabdojjllfcpaaGreat
open Go.RowKit
open Go.Proofs
set_option maxHeartbeats 400000 in
theorem jnum_any (v : Value) (bs : List Int) (n : Int) (base : Nat) (w : World) (h : Row w base v bs) (hbase : base ≤ w.heap.size) (hb : bs.length ≤ 100000000000) :
    Calls Tryz.prog 44 #[v, .int .u32 n] w fun e w' => ∃ ao m c, e = .returned (.slice ao m c) ∧ Row w' base (.slice ao m c) (bs ++ bq n) ∧ RStep w v w' (.slice ao m c) := by
  obtain ⟨cs, hcs⟩ : ∃ cs, cs = bq n := ⟨_, rfl⟩
  have hl : cs.length = 4 := by rw [hcs]; rfl
  have hsl : Sl (w.alloc (.cells #[.int .u8 (n / 16777216 % 256), .int .u8 (n / 65536 % 256), .int .u8 (n / 256 % 256), .int .u8 (n % 256)] 5)) (.slice (some ⟨w.heap.size, 0, none⟩) 4 4) cs := by
    rw [hcs]; exact Sl.block (cs := [n / 16777216 % 256, n / 65536 % 256, n / 256 % 256, n % 256]) (t := 5) (heap_alloc_new w _) (by simp [maxLen])
  rw [← hcs]
  clear hcs
  go_enter Tryz.func44, Tryz.ntmps44
  go_wp2_with (at_builtin; refine wpList_append_row rfl _ _ rfl base v bs rfl (h.kept ((Kp.refl [] w).alloc _) (by simp)) _ cs rfl hsl (by omega) (by simp; omega) ?_; intro ao m c w1 r1 s1)
  go_ret
  exact ⟨ao, m, c, rfl, r1, s1.after ((Kp.refl [] w).alloc _)⟩
/-- a step of a row that is new since w: nothing old is changed. -/
theorem RStep.kpn {w w1 w2 : World} {v v' : Value} {bs : List Int} (s : RStep w1 v w2 v') (k : Kp [] w w1) (r : Row w1 w.heap.size v bs) : Kp [] w w2 :=
  k.then s.1 (fun i hi => .inr (r.own i (by simpa [Option.mem_toList] using hi)))
set_option maxRecDepth 100000 in
set_option maxHeartbeats 2000000 in
theorem record_any (v : Value) (r : List Int) (w : World) (hS : Sl w v r) (hl : r.length ≤ 65535) :
    Calls Tryz.prog 14 #[v] w fun e w' => ∃ ao m c, e = .returned (.slice ao m c) ∧ Row w' w.heap.size (.slice ao m c) (recP r) ∧ Kp [] w w' := by
  have HS := hide (fun w' (k : Kp [] w w') => hS.kept k (by simp))
  have HR : Hid (recP r = [] ++ bq r.length ++ bq (4294967295 - r.length) ++ r) := by unfold recP; exact hide (by simp)
  have HL := hide hl
  obtain ⟨ar, cr, rfl, -⟩ := hS
  obtain ⟨n, hn⟩ : ∃ n, n = r.length := ⟨_, rfl⟩
  have hn32 : IntKind.u32.wrap (n : Int) = n := by simp [IntKind.wrap, IntKind.signed, IntKind.bits]; omega
  have hnl : (n : Int) ≤ 65535 := by omega
  have hus := uns32
  have hx := not32 n (by omega) (by omega)
  rw [← hn] at HS HR HL ⊢
  have HN := hide hn
  clear hn hl
  have H1 := hide (jnum_any (.slice none 0 0) [] n w.heap.size w ⟨rfl, .inl ⟨rfl, rfl⟩⟩ (Nat.le_refl _) (by simp))
  have R0 : Row w w.heap.size (.slice none 0 0) [] := ⟨rfl, .inl ⟨rfl, rfl⟩⟩
  have HR0 := hide R0
  clear R0
  go_enter Tryz.func14, Tryz.ntmps14
  go_wp2_with fail
  refine H1.out.mono ?_
  rintro ee w1 ⟨a1, m1, c1, rfl, R1, S1⟩
  have HK1 := hide (S1.kpn (Kp.refl [] w) HR0.out)
  have H2 := hide (jnum_any _ _ (4294967295 - (n : Int)) w.heap.size w1 R1 HK1.out.size (by simp [bq_len]))
  have HR1 := hide R1
  clear R1 S1 H1
  go_wp2_with fail
  refine H2.out.mono ?_
  rintro ee w2 ⟨a2, m2, c2, rfl, R2, S2⟩
  have HK2 := hide (S2.kpn HK1.out HR1.out)
  have HR2 := hide R2
  have hsx := HS.out w2 HK2.out
  have hlr : r.length ≤ 65535 := by have := HN.out; have := HL.out; omega
  clear R2 S2 H2
  go_wp2_with (at_builtin; refine wpList_append_row rfl (.tmp 11) (.tmp 12) rfl w.heap.size _ _ rfl HR2.out _ r rfl hsx (by simp [bq_len]; omega) HK2.out.size ?_; intro a3 m3 c3 w3 R3 S3)
  go_ret
  rw [HR.out]
  exact ⟨a3, m3, c3, rfl, R3, S3.kpn HK2.out HR2.out⟩
end Go.Proofs.YteabdojjllfcpaaGreat

/-
  The contracts of the reference reader's Bytes and End.
-/
namespace Go.Proofs.YteabdojjllfcpaaGreat
open Go.RowKit
open Go.Proofs
set_option maxHeartbeats 400000 in
theorem rbyt_any (q : Nat) (v : Value) (i : Nat) (bad : Bool) (B : List Int) (most : Int) (w : World) (hR : RR w q v i bad B) (hb : B.length ≤ 140737488355328) (hB : Bs B) (hm0 : 0 ≤ most) :
    Calls Tryz.prog 104 #[.pointer (some ⟨q, 0, none⟩), .int .i64 most] w fun e w' => ∃ ao m c, e = .returned (.slice ao m c) ∧ Own w w' (.slice ao m c) (tkb bad (rest i bad B) most).1 ∧ RLeft w q v B (tkb bad (rest i bad B) most).2 w' := by
  have hv := val_two (tk bad (rest i bad B) 2).1 (tk_bs1 (rest_bs hB)) (@tk_len1 bad (rest i bad B) 2)
  obtain ⟨t, ht⟩ : ∃ t, t = tk bad (rest i bad B) 2 := ⟨_, rfl⟩
  have h2 : (tkb bad (rest i bad B) most) = if most < val t.1 then ([], true, []) else tk t.2.1 t.2.2 (val t.1) := by
    unfold tkb; rw [ht, show max most 0 = most from by omega]
  rw [← ht] at hv
  have HT := hide ht
  obtain ⟨x, hx⟩ : ∃ x, x = val t.1 := ⟨_, rfl⟩
  have hw64 : IntKind.i64.wrap x = x := by rw [hx]; simp [IntKind.wrap, IntKind.signed, IntKind.bits]; omega
  rw [← hx] at hv h2
  have HX := hide hx
  clear ht hx
  obtain ⟨hv0, hv1⟩ := hv
  by_cases hm : most < x
  · rw [if_pos hm] at h2
    rw [h2]
    have hx0 : 0 < x := by omega
    clear h2
    go_enter Tryz.func104, Tryz.ntmps104
    go_wp2_with fail
    refine (rnumb_any q v i bad B 2 _ hR hb (by omega) hB).mono ?_
    rintro e w1 ⟨rfl, hL⟩
    rw [show ((2 : Nat) : Int) = 2 from rfl, ← unhide HT, ← unhide HX]
    obtain ⟨j, bad', r1, _, k1⟩ := hL
    have hc2 := (cell_of_three r1.1).2.2
    have hf2 := free_of_two r1.1 2
    have hB2 := rr_bad r1
    go_wp2_with fail
    refine (rraw_any q v j true B x _ hB2.1 hb (by omega)).mono ?_
    have ht2 : tk true (rest j true B) x = ([], true, []) := by
      show tk true [] x = _
      unfold tk; split <;> simp
    rw [ht2]
    rintro e w3 ⟨ao, m, c, rfl, hO, hL3⟩
    go_wp2_with fail
    go_ret
    obtain ⟨j3, bad3, r3, e3, k3⟩ := hL3
    exact ⟨ao, m, c, rfl, ⟨hO.1, fun k hk => Nat.le_trans (k1.trans hB2.2).size (hO.2 k hk)⟩, j3, bad3, r3, e3, (k1.trans hB2.2).trans k3⟩
  · rw [if_neg hm] at h2
    rw [h2]
    clear h2
    go_enter Tryz.func104, Tryz.ntmps104
    go_wp2_with fail
    refine (rnumb_any q v i bad B 2 _ hR hb (by omega) hB).mono ?_
    rintro e w1 ⟨rfl, hL⟩
    rw [show ((2 : Nat) : Int) = 2 from rfl, ← unhide HT] at hL
    rw [show ((2 : Nat) : Int) = 2 from rfl, ← unhide HT, ← unhide HX]
    obtain ⟨j, bad', r1, e1, k1⟩ := hL
    go_wp2_with fail
    refine (rraw_any q v j bad' B x _ r1 hb (by omega)).mono ?_
    rintro e w3 ⟨ao, m, c, rfl, hO, hL3⟩
    go_wp2_with fail
    go_ret
    obtain ⟨j3, bad3, r3, e3, k3⟩ := hL3
    rw [show t.2.1 = bad' from by rw [e1], show t.2.2 = rest j bad' B from by rw [e1]]
    exact ⟨ao, m, c, rfl, ⟨hO.1, fun k hk => Nat.le_trans k1.size (hO.2 k hk)⟩, j3, bad3, r3, e3, k1.trans k3⟩
theorem rend_any (q : Nat) (v : Value) (i : Nat) (bad : Bool) (B : List Int) (w : World) (hR : RR w q v i bad B) :
    Calls Tryz.prog 106 #[.pointer (some ⟨q, 0, none⟩)] w fun e w' => e = .returned (.bool (!bad && (rest i bad B).isEmpty)) ∧ ∃ n, w' = w.drewN n := by
  obtain ⟨ao, c, rfl, h1, h2, h3, h4⟩ := hR.2.1
  obtain ⟨hc0, hc1, hc2⟩ := cell_of_three hR.1
  have hi := hR.2.2.2
  clear h4 h3 hR
  cases bad with
  | true =>
    go_enter Tryz.func106, Tryz.ntmps106
    go_wp2_with fail
    go_quiet (fail)
    go_wp2_with fail
    go_ret
    exact ⟨rfl, nq, rfl⟩
  | false =>
    have hE : (B.drop i).isEmpty = ((i : Int) == (B.length : Int)) := by
      rw [Bool.eq_iff_iff]; simp; omega
    have HE : Hid ((!false && (rest i false B).isEmpty) = ((i : Int) == (B.length : Int))) := hE
    rw [HE.out]
    clear hE HE
    go_enter Tryz.func106, Tryz.ntmps106
    go_wp2_with fail
    go_quiet (fail)
    go_wp2_with fail
    go_ret
    exact ⟨rfl, nq, rfl⟩
end Go.Proofs.YteabdojjllfcpaaGreat

/-
  The contracts of the reference's Name and Right.
-/
namespace Go.Proofs.YteabdojjllfcpaaGreat
open Go.RowKit
open Go.Proofs
theorem str_index (S : ByteArray) (k : Nat) (hk : k < S.size) (h2 : k < (nums S).length) : (S[k].toNat : Int) = (nums S)[k] := by
  have hj2 : k < S.data.toList.length := by simpa using hk
  simp only [nums, List.getElem_map]
  rfl
set_option maxRecDepth 100000 in
set_option maxHeartbeats 1000000 in
theorem rname_any (S : ByteArray) (b : Bool) (hb : b = nameP (nums S)) (w : World) (hS : S.size ≤ 1000) :
    Calls Tryz.prog 121 #[.string S] w fun e w' => e = .returned (.bool b) ∧ Kp [] w w' := by
  have HB := hide hb
  have HL := hide (nums_len S)
  have hSi : (S.size : Int) ≤ 1000 := by omega
  clear hb
  go_enter Tryz.func121, Tryz.ntmps121
  go_wp2_with fail
  go_loopw [3] (fun i wr => ∃ k : Nat, k ≤ S.size ∧ i = .int .i64 k ∧ (∀ i (h : i < (nums S).length), i < k → 97 ≤ (nums S)[i] ∧ (nums S)[i] ≤ 122) ∧ wr = w) (fun i _ => S.size - (intOf i).toNat)
  case atStart => exact ⟨0, by omega, rfl, (fun i h h' => by omega), rfl⟩
  case round =>
    obtain ⟨k, hk, rfl, hgood, hw⟩ := hrel
    subst wr
    have HGood := hide hgood
    clear hgood
    by_cases hlt : k < S.size
    · have hlt2 : (k : Int) < (S.size : Int) := by omega
      have hkl : k < (nums S).length := by have := unhide HL; omega
      have HX := hide (str_index S k hlt hkl)
      by_cases h1 : (S[k].toNat : Int) < 97
      · have hbad := hide (lowP_bad k hkl (.inl (by rw [← unhide HX]; exact h1)))
        go_wp2_with fail
        go_ret
        exact ⟨by rw [unhide HB, unhide hbad]; rfl, Kp.refl _ _⟩
      · by_cases h2 : 122 < (S[k].toNat : Int)
        · have hbad := hide (lowP_bad k hkl (.inr (by rw [← unhide HX]; exact h2)))
          have hd1 : decide ((S[k].toNat : Int) < 97) = false := decide_eq_false h1
          have hd2 : decide (122 < (S[k].toNat : Int)) = true := decide_eq_true h2
          go_wp2_with fail
          go_ret
          exact ⟨by rw [unhide HB, unhide hbad]; rfl, Kp.refl _ _⟩
        · have hd1 : decide ((S[k].toNat : Int) < 97) = false := decide_eq_false h1
          have hd2 : decide (122 < (S[k].toNat : Int)) = false := decide_eq_false h2
          have HR : Hid (97 ≤ (nums S)[k] ∧ (nums S)[k] ≤ 122) := hide (by rw [← unhide HX]; omega)
          go_wp2_with fail
          go_roundw
          case rel =>
            refine ⟨k + 1, by omega, by go_num, fun i hi hik => ?_, by trivial⟩
            rcases Nat.lt_or_ge i k with h | h
            · exact unhide HGood i hi h
            · obtain rfl : i = k := by omega
              exact unhide HR
          case measure => simp [intOf]; omega
    · obtain rfl : k = S.size := by omega
      have hlt2 : ¬ (S.size : Int) < (S.size : Int) := by omega
      by_cases h1 : 1 ≤ S.size
      · have h1i : (1 : Int) ≤ (S.size : Int) := by omega
        by_cases h2 : S.size ≤ 20
        · have h2i : (S.size : Int) ≤ 20 := by omega
          have hgd := hide (lowP_good (ns := nums S) (by have := unhide HL; omega) (by have := unhide HL; omega) (fun i hi => unhide HGood i hi (by have := unhide HL; omega)))
          go_wp2_with fail
          go_ret
          exact ⟨by rw [unhide HB, unhide hgd]; rfl, Kp.refl _ _⟩
        · have h2i : ¬ (S.size : Int) ≤ 20 := by omega
          have hbad := hide (nameP_long (ns := nums S) (.inr (by have := unhide HL; omega)))
          go_wp2_with fail
          go_ret
          exact ⟨by rw [unhide HB, unhide hbad]; first | rfl | exact congrArg (fun t => Ending.returned (Value.bool t)) (decide_eq_false h2i), Kp.refl _ _⟩
      · have h1i : ¬ (1 : Int) ≤ (S.size : Int) := by omega
        have hbad := hide (nameP_long (ns := nums S) (.inl (by have := unhide HL; omega)))
        go_wp2_with fail
        go_ret
        exact ⟨by rw [unhide HB, unhide hbad]; rfl, Kp.refl _ _⟩
set_option maxRecDepth 100000 in
set_option maxHeartbeats 1000000 in
theorem rright_any (v : Value) (m : Mf) (b : Bool) (hb : b = rgtM m) (w : World) (hV : MV w v m) (hsz : m.s.size ≤ 1000) :
    Calls Tryz.prog 107 #[v] w fun e w' => e = .returned (.bool b) ∧ Kp [] w w' := by
  obtain ⟨af, nf, cf, an, nn, cn, rfl, hF, hNt, hok⟩ := hV
  have hnf := sl_nlenM hF
  have hnn := sl_nlenM hNt
  obtain ⟨s, x, f, n⟩ := m
  simp only at hF hNt hnf hnn hsz ⊢
  obtain ⟨bn, hbn⟩ : ∃ bn, bn = nameP (nums s) := ⟨_, rfl⟩
  have hb2 : b = (bn && decide (0 < x) && decide (nf = 32) && decide (nn ≤ 64)) := by rw [hb, hbn, hnf, hnn]; rfl
  have hx0 : 0 ≤ x := hok.v0
  obtain ⟨ob, hob⟩ : ∃ o : Obj, o = (.cells #[.string s, .int .u32 x, .slice af nf cf, .slice an nn cn] 99) := ⟨_, rfl⟩
  have K1 : Kp [] w (w.alloc ob) := (Kp.refl [] w).alloc ob
  have HI := hide (rname_any s bn hbn (w.alloc ob) hsz)
  have G1 : Hid ((w.alloc ob).heap[w.heap.size]? = some (.cells #[.string s, .int .u32 x, .slice af nf cf, .slice an nn cn] 99 (0, 0))) := by rw [hob]; exact heap_alloc_new w _
  rw [hob] at K1 HI G1
  have HK1 := hide K1
  have HB := hide hb2
  have hcf : (cf : Int) ≤ 9223372036854775807 := by obtain ⟨_, _, e, h1, h2, _⟩ := hF; injection e with _ _ e3; unfold maxLen at h2; omega
  have hfc : (nf : Int) ≤ 9223372036854775807 := by obtain ⟨_, _, e, h1, h2, _⟩ := hF; injection e with _ e2 e3; unfold maxLen at h2; omega
  have hnc : (nn : Int) ≤ 9223372036854775807 := by obtain ⟨_, _, e, h1, h2, _⟩ := hNt; injection e with _ e2 e3; unfold maxLen at h2; omega
  clear hob K1 hb hb2 hbn hF hNt hok hnf hnn hsz
  cases bn
  · have HE : Hid (b = false) := hide (by rw [unhide HB]; rfl)
    clear HB
    go_enter Tryz.func107, Tryz.ntmps107
    go_wp2_with fail
    refine (unhide HI).mono ?_
    rintro ee w2 ⟨rfl, K2⟩
    have HK2 := hide ((unhide HK1).trans K2)
    obtain ⟨-, e1, e2, e3⟩ := cell_man (K2.heap (unhide G1) (by simp))
    clear HI K2 HK1 G1
    go_wp2_with fail
    go_ret
    exact ⟨by rw [unhide HE]; rfl, unhide HK2⟩
  · by_cases h1 : 0 < x
    · by_cases h2 : nf = 32
      · have h2i : (nf : Int) = 32 := by omega
        by_cases h3 : nn ≤ 64
        · have h3i : (nn : Int) ≤ 64 := by omega
          have HE : Hid (b = true) := hide (by rw [unhide HB]; simp [h1, h2, h3])
          clear HB
          subst h2
          go_enter Tryz.func107, Tryz.ntmps107
          go_wp2_with fail
          refine (unhide HI).mono ?_
          rintro ee w2 ⟨rfl, K2⟩
          have HK2 := hide ((unhide HK1).trans K2)
          obtain ⟨-, e1, e2, e3⟩ := cell_man (K2.heap (unhide G1) (by simp))
          clear HI K2 HK1 G1
          go_wp2_with fail
          go_ret
          exact ⟨by rw [unhide HE]; rfl, unhide HK2⟩
        · have h3i : (64 : Int) < (nn : Int) := by omega
          have HE : Hid (b = false) := hide (by rw [unhide HB]; simp [h3])
          clear HB
          subst h2
          go_enter Tryz.func107, Tryz.ntmps107
          go_wp2_with fail
          refine (unhide HI).mono ?_
          rintro ee w2 ⟨rfl, K2⟩
          have HK2 := hide ((unhide HK1).trans K2)
          obtain ⟨-, e1, e2, e3⟩ := cell_man (K2.heap (unhide G1) (by simp))
          clear HI K2 HK1 G1
          go_wp2_with fail
          go_ret
          exact ⟨by rw [unhide HE]; exact congrArg (fun t => Ending.returned (Value.bool t)) (decide_eq_false (by omega)), unhide HK2⟩
      · have h2i : ¬ (nf : Int) = 32 := by omega
        have HE : Hid (b = false) := hide (by rw [unhide HB]; simp [h2])
        clear HB
        go_enter Tryz.func107, Tryz.ntmps107
        go_wp2_with fail
        refine (unhide HI).mono ?_
        rintro ee w2 ⟨rfl, K2⟩
        have HK2 := hide ((unhide HK1).trans K2)
        obtain ⟨-, e1, e2, e3⟩ := cell_man (K2.heap (unhide G1) (by simp))
        clear HI K2 HK1 G1
        go_wp2_with fail
        go_ret
        exact ⟨by rw [unhide HE]; rfl, unhide HK2⟩
    · obtain rfl : x = 0 := by omega
      have HE : Hid (b = false) := hide (by rw [unhide HB]; rfl)
      clear HB
      go_enter Tryz.func107, Tryz.ntmps107
      go_wp2_with fail
      refine (unhide HI).mono ?_
      rintro ee w2 ⟨rfl, K2⟩
      have HK2 := hide ((unhide HK1).trans K2)
      obtain ⟨-, e1, e2, e3⟩ := cell_man (K2.heap (unhide G1) (by simp))
      clear HI K2 HK1 G1
      go_wp2_with fail
      go_ret
      exact ⟨by rw [unhide HE]; rfl, unhide HK2⟩
end Go.Proofs.YteabdojjllfcpaaGreat

/-
  The contract of the reference's Decode.
-/
namespace Go.Proofs.YteabdojjllfcpaaGreat
open Go.RowKit
open Go.Proofs
/-- what is read of a reader behind j readings. -/
def dst (B : List Int) : Nat → Bool × List Int
  | 0 => (d1 B).2
  | 1 => (d2 B).2
  | 2 => (d3 B).2
  | 3 => (d4 B).2
  | _ => (d5 B).2
/-- the reader behind j readings. -/
def StR (q : Nat) (vb : Value) (B : List Int) (j : Nat) (w : World) : Prop := ∃ i bad, RR w q vb i bad B ∧ dst B j = (bad, rest i bad B)
theorem StR.kept {q : Nat} {vb : Value} {B : List Int} {j : Nat} {w w' : World} (h : StR q vb B j w) (k : Kp [] w w') : StR q vb B j w' := by
  obtain ⟨i, bad, h1, h2⟩ := h
  exact ⟨i, bad, h1.kept k (by simp) (by simp), h2⟩
/-- so many readings were done, as the frame tells. -/
def GR (w0 : World) (q : Nat) (vb : Value) (B : List Int) : Act → World → Prop := fun a w =>
  (Kp [q] w0 w ∧ 20 < a.tmps.size) ∧ ∃ j, (a.eval (.tmp 13) ≠ undef ↔ 1 ≤ j) ∧ (a.eval (.tmp 16) ≠ undef ↔ 2 ≤ j) ∧ (a.eval (.tmp 18) ≠ undef ↔ 3 ≤ j) ∧ (a.eval (.tmp 20) ≠ undef ↔ 4 ≤ j) ∧ j ≤ 4 ∧ StR q vb B j w
def chn : List Tmp := [13, 16, 18, 20]
section
variable {w0 w w' : World} {q : Nat} {vb : Value} {B : List Int} {a : Act}
theorem GR.free (h : GR w0 q vb B a w) (d : Tmp) (hd : d ∉ chn) (v : Value) (k : Kp [] w w') : GR w0 q vb B (a.put (some d) v) w' := by
  obtain ⟨h0, j, h1, h2, h3, h4, h5, h6⟩ := h
  simp only [chn, List.mem_cons, List.not_mem_nil, or_false, not_or] at hd
  refine ⟨⟨h0.1.trans (k.mono (by simp)), by simpa [Act.put] using h0.2⟩, j, ?_, ?_, ?_, ?_, h5, h6.kept k⟩
  · rw [eval_put_ne (fun e => hd.1 e)]; exact h1
  · rw [eval_put_ne (fun e => hd.2.1 e)]; exact h2
  · rw [eval_put_ne (fun e => hd.2.2.1 e)]; exact h3
  · rw [eval_put_ne (fun e => hd.2.2.2 e)]; exact h4
/-- the slot of reading p. -/
def slt : Nat → Tmp
  | 1 => 13
  | 2 => 16
  | 3 => 18
  | _ => 20
theorem GR.ph {j : Nat} (h1 : a.eval (.tmp 13) ≠ undef ↔ 1 ≤ j) (h2 : a.eval (.tmp 16) ≠ undef ↔ 2 ≤ j) (h3 : a.eval (.tmp 18) ≠ undef ↔ 3 ≤ j) (h4 : a.eval (.tmp 20) ≠ undef ↔ 4 ≤ j) (p : Nat) (hp : 1 ≤ p ∧ p ≤ 4) (hprev : p = 1 ∨ a.eval (.tmp (slt (p - 1))) ≠ undef) (hown : a.eval (.tmp (slt p)) = undef) : j = p - 1 := by
  rcases (by omega : p = 1 ∨ p = 2 ∨ p = 3 ∨ p = 4) with rfl | rfl | rfl | rfl
  · have : ¬ 1 ≤ j := fun h => h1.2 h hown
    omega
  · have : ¬ 2 ≤ j := fun h => h2.2 h hown
    have := h1.1 (hprev.resolve_left (by omega))
    omega
  · have : ¬ 3 ≤ j := fun h => h3.2 h hown
    have := h2.1 (hprev.resolve_left (by omega))
    omega
  · have : ¬ 4 ≤ j := fun h => h4.2 h hown
    have := h3.1 (hprev.resolve_left (by omega))
    omega
theorem GR.at (h : GR w0 q vb B a w) (p : Nat) (hp : 1 ≤ p ∧ p ≤ 4) (hprev : p = 1 ∨ a.eval (.tmp (slt (p - 1))) ≠ undef) (hown : a.eval (.tmp (slt p)) = undef) : StR q vb B (p - 1) w := by
  obtain ⟨h0, j, h1, h2, h3, h4, h5, h6⟩ := h
  have hj := GR.ph h1 h2 h3 h4 p hp hprev hown
  rw [← hj]
  exact h6
theorem GR.next (h : GR w0 q vb B a w) (p : Nat) (hp : 1 ≤ p ∧ p ≤ 4) (hprev : p = 1 ∨ a.eval (.tmp (slt (p - 1))) ≠ undef) (hown : a.eval (.tmp (slt p)) = undef) {v : Value} (hv : v ≠ undef) (k : Kp [q] w w') (hS : StR q vb B p w') : GR w0 q vb B (a.put (some (slt p)) v) w' := by
  obtain ⟨h0, j, h1, h2, h3, h4, h5, h6⟩ := h
  have hj := GR.ph h1 h2 h3 h4 p hp hprev hown
  refine ⟨⟨h0.1.trans k, by simpa [Act.put] using h0.2⟩, p, ?_⟩
  have hsz := h0.2
  rcases (by omega : p = 1 ∨ p = 2 ∨ p = 3 ∨ p = 4) with rfl | rfl | rfl | rfl
  · simp only [slt]
    refine ⟨?_, ?_, ?_, ?_, hp.2, hS⟩
    · rw [eval_put_same (by first | exact hsz | exact Nat.lt_trans (by decide) hsz)]; simp [hv]
    · rw [eval_put_ne (by decide), h2]; omega
    · rw [eval_put_ne (by decide), h3]; omega
    · rw [eval_put_ne (by decide), h4]; omega
  · simp only [slt]
    refine ⟨?_, ?_, ?_, ?_, hp.2, hS⟩
    · rw [eval_put_ne (by decide), h1]; omega
    · rw [eval_put_same (by first | exact hsz | exact Nat.lt_trans (by decide) hsz)]; simp [hv]
    · rw [eval_put_ne (by decide), h3]; omega
    · rw [eval_put_ne (by decide), h4]; omega
  · simp only [slt]
    refine ⟨?_, ?_, ?_, ?_, hp.2, hS⟩
    · rw [eval_put_ne (by decide), h1]; omega
    · rw [eval_put_ne (by decide), h2]; omega
    · rw [eval_put_same (by first | exact hsz | exact Nat.lt_trans (by decide) hsz)]; simp [hv]
    · rw [eval_put_ne (by decide), h4]; omega
  · simp only [slt]
    refine ⟨?_, ?_, ?_, ?_, hp.2, hS⟩
    · rw [eval_put_ne (by decide), h1]; omega
    · rw [eval_put_ne (by decide), h2]; omega
    · rw [eval_put_ne (by decide), h3]; omega
    · rw [eval_put_same (by first | exact hsz | exact Nat.lt_trans (by decide) hsz)]; simp [hv]
end
/-- a slice that reads so and does not lie in block q. -/
def OffT (q : Nat) (bs : List Int) : Tell := fun v w => (∃ ao m c, v = .slice ao m c) ∧ Sl w v bs ∧ ∀ k, v.ownBlock = some k → k ≠ q
theorem stableG_off (q : Nat) (bs : List Int) : Tell.stableG (Kp [q]) (OffT q bs) := fun _ _ _ k h => ⟨h.1, h.2.1.kept k (fun i hi => by simpa using h.2.2 i hi), h.2.2⟩
theorem stableG_is (q : Nat) (c : Value) : Tell.stableG (Kp [q]) (Is c) := fun _ _ _ _ h => h
/-- a manifest whose bytes do not lie in block q. -/
def MvO (q : Nat) (m : Mf) : Tell := fun v w => ∃ af nf cf an nn cn, v = .agg #[.string m.s, .int .u32 m.v, .slice af nf cf, .slice an nn cn] ∧ OffT q m.f (.slice af nf cf) w ∧ OffT q m.n (.slice an nn cn) w ∧ m.ok
theorem stableG_mvo (q : Nat) (m : Mf) : Tell.stableG (Kp [q]) (MvO q m) := fun _ _ _ k ⟨af, nf, cf, an, nn, cn, e, h1, h2, h3⟩ => ⟨af, nf, cf, an, nn, cn, e, stableG_off q _ _ _ _ k h1, stableG_off q _ _ _ _ k h2, h3⟩
theorem MvO.mv {q : Nat} {m : Mf} {v : Value} {w : World} (h : MvO q m v w) : MV w v m := by
  obtain ⟨af, nf, cf, an, nn, cn, e, h1, h2, h3⟩ := h
  exact ⟨af, nf, cf, an, nn, cn, e, h1.2.1, h2.2.1, h3⟩
/-- a new place for a manifest. -/
def NewM (q s0 : Nat) : Tell := fun v w => ∃ g, v = .pointer (some ⟨g, 0, none⟩) ∧ w.heap[g]? = some (.cells #[.string ⟨#[]⟩, .int .u32 0, .slice none 0 0, .slice none 0 0] 99) ∧ s0 ≤ g ∧ g ≠ q
theorem stableG_newm (q s0 : Nat) : Tell.stableG (Kp [q]) (NewM q s0) := fun _ _ _ k ⟨g, e, h1, h2, h3⟩ => ⟨g, e, k.heap h1 (by simpa using h3), h2, h3⟩
section
variable {o : Oper} {a : Act} {w : World}
theorem grown_newm (q s0 : Nat) (hq : q < w.heap.size) (hs : s0 ≤ w.heap.size) (ho : o.op = .alloc 99) : grown Tryz.prog w (NewM q s0) ((execOp a.eval o).run Tryz.prog w) := by
  refine grown_run (v := .pointer (some ⟨w.heap.size, 0, none⟩)) (w' := w.alloc (.cells #[.string ⟨#[]⟩, .int .u32 0, .slice none 0 0, .slice none 0 0] 99)) ?_ ((Kp.refl _ _).alloc _) ⟨w.heap.size, rfl, heap_alloc_new w _, hs, by omega⟩
  unfold execOp
  simp only [ho]
  simp [go_sem]
theorem grown_mvo (q : Nat) (x0 x1 x2 x3 : Operand) (ho : o.op = .build 99 #[(0, x0), (1, x1), (2, x2), (3, x3)]) (m : Mf) (h0 : a.eval x0 = .string m.s) (h1 : a.eval x1 = .int .u32 m.v) (h2 : OffT q m.f (a.eval x2) w) (h3 : OffT q m.n (a.eval x3) w) (hok : m.ok) : grown Tryz.prog w (MvO q m) ((execOp a.eval o).run Tryz.prog w) := by
  have k2 := h2
  have k3 := h3
  obtain ⟨⟨a2, n2, c2, e2⟩, -⟩ := h2
  obtain ⟨⟨a3, n3, c3, e3⟩, -⟩ := h3
  rw [e2] at k2
  rw [e3] at k3
  refine grown_run (v := .agg #[.string m.s, .int .u32 m.v, .slice a2 n2 c2, .slice a3 n3 c3]) ?_ (Kp.refl _ _) ⟨a2, n2, c2, a3, n3, c3, rfl, k2, k3, hok⟩
  obtain ⟨ρ, hρ, _⟩ := eval_is a
  rw [hρ] at h0 h1 e2 e3 ⊢
  unfold execOp
  simp only [ho]
  simp [go_sem, h0, h1, e2, e3]
end
theorem tkb_short (bad : Bool) (bs : List Int) (n : Nat) (hB : Bs bs) : (tkb bad bs n).1.length ≤ n := by
  unfold tkb
  split
  · simp
  · rename_i h
    have h2 : val (tk bad bs 2).1 ≤ (n : Int) := by omega
    have h0 := (val_bd _ (tk_bs1 (bad := bad) (n := 2) hB)).1
    obtain ⟨k, hk⟩ := Int.eq_ofNat_of_zero_le h0
    rw [hk] at h2 ⊢
    exact Nat.le_trans tk_len1 (by omega)
set_option maxRecDepth 100000 in
set_option maxHeartbeats 4000000 in
theorem rdecode_any (vb : Value) (B : List Int) (w : World) (hS : Sl w vb B) (hB : Bs B) (hl : B.length ≤ 140737488355328) (hv : ∀ k, vb.ownBlock = some k → k < w.heap.size) :
    Calls Tryz.prog 81 #[vb] w fun e w' => ∃ v, e = .returned (.tuple #[v, .bool (okM B)]) ∧ MV w' v (ansM B) ∧ Kp [] w w' := by
  have HS := hide hS
  have HB := hide hB
  have HLN := hide hl
  obtain ⟨ab, cb, hvb, -⟩ := hS
  obtain ⟨nb, hnb⟩ : ∃ n, n = B.length := ⟨_, rfl⟩
  rw [← hnb] at hvb
  obtain ⟨w1, hw1⟩ : ∃ w1, w1 = w.alloc (.cells #[.string ⟨#[]⟩, .int .u32 0, .slice none 0 0, .slice none 0 0] 99) := ⟨_, rfl⟩
  obtain ⟨w2, hw2⟩ : ∃ w2, w2 = w1.alloc (.cells #[vb, .int .i64 0, .bool false] 175) := ⟨_, rfl⟩
  obtain ⟨g0, hg0⟩ : ∃ g, g = w.heap.size := ⟨_, rfl⟩
  obtain ⟨q, hq⟩ : ∃ q, q = w.heap.size + 1 := ⟨_, rfl⟩
  have K1 : Kp [] w w1 := by rw [hw1]; exact (Kp.refl [] w).alloc _
  have hz1 : w1.heap.size = w.heap.size + 1 := by rw [hw1]; simp
  have K2 : Kp [] w1 w2 := by rw [hw2]; exact (Kp.refl [] w1).alloc _
  have G0 : w2.heap[g0]? = some (.cells #[.string ⟨#[]⟩, .int .u32 0, .slice none 0 0, .slice none 0 0] 99) := K2.heap (by rw [hw1, hg0]; exact heap_alloc_new w _) (by simp)
  have R2 : RR w2 q vb 0 false B := ⟨by rw [hw2, hq, ← hz1]; exact heap_alloc_new w1 _, (unhide HS).kept (K1.trans K2) (by simp), fun e => by have := hv _ e; omega, by omega⟩
  have hC := rnumb_any q vb 0 false B 1 w2 R2 hl (by omega) hB
  rw [show rest 0 false B = B from rfl, show tk false B ((1 : Nat) : Int) = d1 B from (d1_eq B).symm] at hC
  obtain ⟨t, ht⟩ : ∃ t, t = val (d1 B).1 := ⟨_, rfl⟩
  rw [← ht] at hC
  have HC := hide hC
  have HT := hide ht
  have HK2 := hide (K1.trans K2)
  have HG0 := hide G0
  have HQW := hide hq
  have HGW := hide hg0
  have HW12 : Hid (w2 = (w.alloc (.cells #[.string ⟨#[]⟩, .int .u32 0, .slice none 0 0, .slice none 0 0] 99)).alloc (.cells #[vb, .int .i64 0, .bool false] 175)) := hide (by rw [hw2, hw1])
  subst hvb
  clear hB hl hnb hw1 hw2 hg0 hq K1 K2 hz1 G0 R2 hC ht hv
  go_enter Tryz.func81, Tryz.ntmps81
  go_wp2_with fail
  rw [← unhide HW12, ← unhide HQW, ← unhide HGW]
  refine (unhide HC).mono ?_
  rintro ee w3 ⟨rfl, i3, b3, R3, e3, K3⟩
  have HR3 := hide R3
  have HE3 := hide e3
  have HG3 := hide (K3.heap (unhide HG0) (by have := unhide HQW; have := unhide HGW; simp; omega))
  have HK3 : Hid (Kp [] w w3) := (unhide HK2).then K3 (fun i hi => .inr (by have := unhide HQW; simp at hi; omega))
  have HQ3 : Hid (q < w3.heap.size) := hide (lt_of_block R3.1)
  obtain ⟨S5, hS5⟩ : ∃ S, S = strOfNums (d2 B).1 := ⟨_, rfl⟩
  have HS5 := hide hS5
  obtain ⟨x, hx⟩ : ∃ x, x = val (d3 B).1 := ⟨_, rfl⟩
  have HX := hide hx
  obtain ⟨vb, hvb⟩ : ∃ v : Value, v = .slice ab nb cb := ⟨_, rfl⟩
  rw [← hvb] at HS HR3
  have HVB := hide hvb
  clear HC R3 e3 K3 HK2 HG0 HW12 hS5 hx hvb
  go_wp2_with fail
  refine region_growG_tail (K := Kp [q]) (G := GR w3.drew q vb B) 11 Tryz.mixed [Is (.pointer (some ⟨q, 0, none⟩)), OffT q (d2 B).1, Is (.string S5), Is (.pointer (some ⟨q, 0, none⟩)), Is (.int .u32 x), Is (.pointer (some ⟨q, 0, none⟩)), OffT q (d4 B).1, Is (.pointer (some ⟨q, 0, none⟩)), OffT q (d5 B).1, MvO q (decM B), NewM q w3.heap.size] [[(4, none)], [(12, some 0), (13, none)], [(13, some 1)], [(4, none)], [(15, some 3), (13, some 1), (16, none)], [(4, none)], [(17, some 5), (16, some 4), (18, none)], [(4, none)], [(19, some 7), (18, some 6), (20, none)], [(14, some 2), (16, some 4), (18, some 6), (20, some 8)], []] (by kernel_rfl) ?_ ?_ ?_ ?_
  all_goals try simp only [List.take_succ_cons, List.take_zero, List.drop_succ_cons, List.drop_zero]
  · simp only [List.mem_cons, List.not_mem_nil, or_false]
    intro R hR
    rcases hR with rfl | rfl | rfl | rfl | rfl | rfl | rfl | rfl | rfl | rfl | rfl <;> first | exact stableG_is _ _ | exact stableG_off _ _ | exact stableG_mvo _ _ | exact stableG_newm _ _
  · exact ⟨⟨Kp.refl _ _, by simp⟩, 0, by simp [Act.eval, undef], by simp [Act.eval, undef], by simp [Act.eval, undef], by simp [Act.eval, undef], by omega, i3, b3, (unhide HR3).kept (kp_drew w3) (by simp) (by simp), unhide HE3⟩
  · refine steps_consG (fun a w hg hn => ?_) ?_
    · have h4 : a.eval (.tmp 4) = .pointer (some ⟨q, 0, none⟩) := hn.1
      clear hn
      refine wantsG_of (fun _ _ k => k.mono (by simp)) (fun v w' k => hg.free 12 (by decide) v k) ?_
      refine wants_plain rfl ?_
      exact grown_move (.tmp 4) rfl h4
    refine steps_consG (fun a w hg hn => ?_) ?_
    · have h12 : a.eval (.tmp 12) = .pointer (some ⟨q, 0, none⟩) := hn.1
      have h13 : a.eval (.tmp 13) = undef := hn.2.1
      clear hn
      have hprev : 1 = 1 ∨ a.eval (.tmp (slt (1 - 1))) ≠ undef := .inl rfl
      obtain ⟨i, bad, hR, hs⟩ := hg.at 1 (by omega) hprev h13
      have hs : (d1 B).2 = (bad, rest i bad B) := hs
      have e1 : bad = (d1 B).2.1 := (congrArg Prod.fst hs).symm
      have e2 : rest i bad B = (d1 B).2.2 := (congrArg Prod.snd hs).symm
      have hq := lt_of_block hR.1
      have hC := rbyt_any q vb i bad B 20 w hR (unhide HLN) (unhide HB) (by omega)
      rw [e2, e1, ← d2_eq] at hC
      refine wantsG_call rfl rfl Tryz.func104 (by kernel_rfl) (by kernel_rfl) ?_
      simp only [List.map_toArray, List.map_cons, List.map_nil, h12]
      refine hC.mono ?_
      rintro e w' ⟨ao, m, c, rfl, O, i2, b2, R2, e2, K2⟩
      exact ⟨_, rfl, ⟨K2, hg.next 1 (by omega) hprev h13 (by simp [undef]) K2 ⟨i2, b2, R2, e2⟩⟩, ⟨ao, m, c, rfl⟩, O.1, fun k hk => by have := O.2 k hk; omega⟩
    refine steps_consG (fun a w hg hn => ?_) ?_
    · have h13 : (OffT q (d2 B).1) (a.eval (.tmp 13)) w := hn.1
      clear hn
      refine wantsG_of (fun _ _ k => k.mono (by simp)) (fun v w' k => hg.free 14 (by decide) v k) ?_
      refine wants_plain rfl ?_
      exact grown_conv (.tmp 13) _ _ 5 _ rfl h13.2.1 Tryz.underlying28 Tryz.underlying5 Tryz.underlying9 (congrArg Value.string (unhide HS5).symm)
    refine steps_consG (fun a w hg hn => ?_) ?_
    · have h4 : a.eval (.tmp 4) = .pointer (some ⟨q, 0, none⟩) := hn.1
      clear hn
      refine wantsG_of (fun _ _ k => k.mono (by simp)) (fun v w' k => hg.free 15 (by decide) v k) ?_
      refine wants_plain rfl ?_
      exact grown_move (.tmp 4) rfl h4
    refine steps_consG (fun a w hg hn => ?_) ?_
    · have h15 : a.eval (.tmp 15) = .pointer (some ⟨q, 0, none⟩) := hn.1
      have h13 : (OffT q (d2 B).1) (a.eval (.tmp 13)) w := hn.2.1
      have h16 : a.eval (.tmp 16) = undef := hn.2.2.1
      clear hn
      have hprev : 2 = 1 ∨ a.eval (.tmp (slt (2 - 1))) ≠ undef := .inr (by obtain ⟨⟨ao, m, c, e⟩, -⟩ := h13; show a.eval (.tmp 13) ≠ undef; rw [e]; simp [undef])
      obtain ⟨i, bad, hR, hs⟩ := hg.at 2 (by omega) hprev h16
      have hs : (d2 B).2 = (bad, rest i bad B) := hs
      have e1 : bad = (d2 B).2.1 := (congrArg Prod.fst hs).symm
      have e2 : rest i bad B = (d2 B).2.2 := (congrArg Prod.snd hs).symm
      have hq := lt_of_block hR.1
      have hC := rnumb_any q vb i bad B 4 w hR (unhide HLN) (by omega) (unhide HB)
      rw [show ((4 : Nat) : Int) = 4 from rfl, e2, e1, ← d3_eq] at hC
      refine wantsG_call rfl rfl Tryz.func103 (by kernel_rfl) (by kernel_rfl) ?_
      simp only [List.map_toArray, List.map_cons, List.map_nil, h15]
      refine hC.mono ?_
      rintro e w' ⟨rfl, i2, b2, R2, e2, K2⟩
      exact ⟨_, rfl, ⟨K2, hg.next 2 (by omega) hprev h16 (by simp [undef]) K2 ⟨i2, b2, R2, e2⟩⟩, congrArg (fun t => Value.int .u32 t) (unhide HX).symm⟩
    refine steps_consG (fun a w hg hn => ?_) ?_
    · have h4 : a.eval (.tmp 4) = .pointer (some ⟨q, 0, none⟩) := hn.1
      clear hn
      refine wantsG_of (fun _ _ k => k.mono (by simp)) (fun v w' k => hg.free 17 (by decide) v k) ?_
      refine wants_plain rfl ?_
      exact grown_move (.tmp 4) rfl h4
    refine steps_consG (fun a w hg hn => ?_) ?_
    · have h17 : a.eval (.tmp 17) = .pointer (some ⟨q, 0, none⟩) := hn.1
      have h16 : a.eval (.tmp 16) = .int .u32 x := hn.2.1
      have h18 : a.eval (.tmp 18) = undef := hn.2.2.1
      clear hn
      have hprev : 3 = 1 ∨ a.eval (.tmp (slt (3 - 1))) ≠ undef := .inr (by show a.eval (.tmp 16) ≠ undef; rw [h16]; simp [undef])
      obtain ⟨i, bad, hR, hs⟩ := hg.at 3 (by omega) hprev h18
      have hs : (d3 B).2 = (bad, rest i bad B) := hs
      have e1 : bad = (d3 B).2.1 := (congrArg Prod.fst hs).symm
      have e2 : rest i bad B = (d3 B).2.2 := (congrArg Prod.snd hs).symm
      have hq := lt_of_block hR.1
      have hC := rraw_any q vb i bad B 32 w hR (unhide HLN) (by omega)
      rw [e2, e1, ← d4_eq] at hC
      refine wantsG_call rfl rfl Tryz.func105 (by kernel_rfl) (by kernel_rfl) ?_
      simp only [List.map_toArray, List.map_cons, List.map_nil, h17]
      refine hC.mono ?_
      rintro e w' ⟨ao, m, c, rfl, O, i2, b2, R2, e2, K2⟩
      exact ⟨_, rfl, ⟨K2, hg.next 3 (by omega) hprev h18 (by simp [undef]) K2 ⟨i2, b2, R2, e2⟩⟩, ⟨ao, m, c, rfl⟩, O.1, fun k hk => by have := O.2 k hk; omega⟩
    refine steps_consG (fun a w hg hn => ?_) ?_
    · have h4 : a.eval (.tmp 4) = .pointer (some ⟨q, 0, none⟩) := hn.1
      clear hn
      refine wantsG_of (fun _ _ k => k.mono (by simp)) (fun v w' k => hg.free 19 (by decide) v k) ?_
      refine wants_plain rfl ?_
      exact grown_move (.tmp 4) rfl h4
    refine steps_consG (fun a w hg hn => ?_) ?_
    · have h19 : a.eval (.tmp 19) = .pointer (some ⟨q, 0, none⟩) := hn.1
      have h18 : (OffT q (d4 B).1) (a.eval (.tmp 18)) w := hn.2.1
      have h20 : a.eval (.tmp 20) = undef := hn.2.2.1
      clear hn
      have hprev : 4 = 1 ∨ a.eval (.tmp (slt (4 - 1))) ≠ undef := .inr (by obtain ⟨⟨ao, m, c, e⟩, -⟩ := h18; show a.eval (.tmp 18) ≠ undef; rw [e]; simp [undef])
      obtain ⟨i, bad, hR, hs⟩ := hg.at 4 (by omega) hprev h20
      have hs : (d4 B).2 = (bad, rest i bad B) := hs
      have e1 : bad = (d4 B).2.1 := (congrArg Prod.fst hs).symm
      have e2 : rest i bad B = (d4 B).2.2 := (congrArg Prod.snd hs).symm
      have hq := lt_of_block hR.1
      have hC := rbyt_any q vb i bad B 64 w hR (unhide HLN) (unhide HB) (by omega)
      rw [e2, e1, ← d5_eq] at hC
      refine wantsG_call rfl rfl Tryz.func104 (by kernel_rfl) (by kernel_rfl) ?_
      simp only [List.map_toArray, List.map_cons, List.map_nil, h19]
      refine hC.mono ?_
      rintro e w' ⟨ao, m, c, rfl, O, i2, b2, R2, e2, K2⟩
      exact ⟨_, rfl, ⟨K2, hg.next 4 (by omega) hprev h20 (by simp [undef]) K2 ⟨i2, b2, R2, e2⟩⟩, ⟨ao, m, c, rfl⟩, O.1, fun k hk => by have := O.2 k hk; omega⟩
    refine steps_consG (fun a w hg hn => ?_) ?_
    · have h14 : a.eval (.tmp 14) = .string S5 := hn.1
      have h16 : a.eval (.tmp 16) = .int .u32 x := hn.2.1
      have h18 : (OffT q (d4 B).1) (a.eval (.tmp 18)) w := hn.2.2.1
      have h20 : (OffT q (d5 B).1) (a.eval (.tmp 20)) w := hn.2.2.2.1
      clear hn
      refine wantsG_of (fun _ _ k => k.mono (by simp)) (fun v w' k => hg.free 21 (by decide) v k) ?_
      refine wants_plain rfl ?_
      exact grown_mvo q (.tmp 14) (.tmp 16) (.tmp 18) (.tmp 20) rfl (decM B) (by rw [h14, decM_s, unhide HS5]) (by rw [h16, decM_v, unhide HX]) (by rw [decM_f]; exact h18) (by rw [decM_n]; exact h20) (decM_ok (unhide HB))
    refine steps_consG (fun a w hg hn => ?_) ?_
    · clear hn
      refine wantsG_of (fun _ _ k => k.mono (by simp)) (fun v w' k => hg.free 6 (by decide) v k) ?_
      refine wants_plain rfl ?_
      exact grown_newm q w3.heap.size (by have := hg.1.1.size; have := unhide HQ3; have e : w3.drew.heap.size = w3.heap.size := rfl; omega) hg.1.1.size rfl
    exact trivial
  intro W1
  rintro _ rfl
  intro v13 h13
  rintro _ rfl
  rintro _ rfl
  rintro _ rfl
  rintro _ rfl
  intro v18 h18
  rintro _ rfl
  intro v20 h20
  intro v21 h21
  intro v6 h6
  refine fin_nil ?_
  intro hG
  obtain ⟨⟨KG, -⟩, j, -, -, -, hj4, hj5, hSt⟩ := hG
  have hj : j = 4 := by
    have : 4 ≤ j := hj4.1 (by obtain ⟨⟨ao, m, c, e⟩, -⟩ := h20; subst e; simp [Act.put, Act.eval, undef])
    omega
  subst hj
  obtain ⟨i5, b5, R5, e5⟩ := hSt
  obtain ⟨g6, e6, G6, hs6, hne6⟩ := h6
  subst e6
  have V21 := h21.mv
  obtain ⟨af, nf, cf, an, nn, cn, e21, o21, p21, -⟩ := h21
  subst e21
  have HV21 := hide V21
  have HR5 := hide R5
  have HE5 := hide e5
  have HKG := hide (((kp_drew w3).mono (S' := [q]) (by simp)).trans KG)
  have HNE := hide hne6
  have HS6 := hide hs6
  clear hj4 hj5 R5 e5 KG V21 o21 p21 h13 h18 h20 hs6 hne6
  simp only [Act.put, List.set_cons_zero, List.set_cons_succ, List.setIfInBounds_toArray]
  go_wp2_with (refine wpList_store_man rfl (.tmp 6) (.tmp 21) rfl g6 rfl _ _ _ _ _ _ _ _ G6 rfl ⟨rfl, rfl, rfl, rfl⟩ ?_; intro W2 Gm Km; refine Hid.out ?_)
  have hg6w : w.heap.size ≤ g6 := Nat.le_trans (unhide HK3).size (unhide HS6)
  have HKW : Hid (Kp [] w W2) := ((unhide HK3).then (unhide HKG) (fun i hi => .inr (by have := unhide HQW; simp at hi; omega))).then Km (fun i hi => .inr (by simp at hi; omega))
  have NB6 := noBy_man G6
  have HVm := hide ((unhide HV21).offBy NB6 Km)
  have hRm : RR W2 q vb i5 b5 B := by
    have h := unhide HR5
    refine ⟨Km.heap h.1 (by have := unhide HNE; simp; omega), ?_, h.2.2⟩
    rw [unhide HVB]
    have h2 := h.2.1
    rw [unhide HVB] at h2
    exact h2.offBy NB6 Km
  have hg0lt : g0 < w3.heap.size := lt_of_block (unhide HG3)
  have hG0m : W2.heap[g0]? = some (.cells #[.string ⟨#[]⟩, .int .u32 0, .slice none 0 0, .slice none 0 0] 99) := Km.heap ((unhide HKG).heap (unhide HG3) (by have := unhide HQW; have := unhide HGW; simp; omega)) (by have := unhide HS6; simp; omega)
  have HEnd := hide (rend_any q vb i5 b5 B W2 hRm)
  obtain ⟨eb, heb⟩ : ∃ b, b = (!b5 && (rest i5 b5 B).isEmpty) := ⟨_, rfl⟩
  have heb2 : eb = endM B := by
    have e : (d5 B).2 = (b5, rest i5 b5 B) := unhide HE5
    rw [heb]; unfold endM; rw [e]
  rw [← heb] at HEnd
  obtain ⟨rb, hrb⟩ : ∃ b, b = rgtM (decM B) := ⟨_, rfl⟩
  have hs20 : (decM B).s.size ≤ 1000 := by
    rw [decM_s, str_size, d2_eq]
    exact Nat.le_trans (tkb_short _ _ 20 (by have := (ds_bs (unhide HB)).1; exact this)) (by omega)
  have HRgt := hide (fun W (k : Kp [] W2 W) => rright_any _ (decM B) rb hrb W ((unhide HVm).kept k) hs20)
  have hok : okM B = (decide (t = 77) && eb && rb) := by rw [heb2, hrb, unhide HT]; rfl
  have HOK := hide hok
  have HGm := hide Gm
  have HG0m := hide hG0m
  have hwg0 : w.heap.size ≤ g0 := by have := unhide HGW; omega
  obtain ⟨s6, hs6⟩ : ∃ s, s = (decM B).s := ⟨_, rfl⟩
  obtain ⟨x6, hx6⟩ : ∃ s, s = (decM B).v := ⟨_, rfl⟩
  rw [← hs6, ← hx6] at HGm HVm HRgt ⊢
  clear hs6 hx6
  clear G6 Gm Km NB6 hRm hg0lt hG0m heb heb2 hrb hs20 hok HV21 HR5 HE5 HKG HNE HS6 HK3 HR3 HE3 HG3 hg6w
  refine hide ?_
  by_cases h77 : t = 77
  · subst h77
    cases eb
    · have HNO : Hid (okM B = false) := hide (by rw [unhide HOK]; rfl)
      clear HOK HRgt
      go_wp2_with fail
      refine (unhide HEnd).mono ?_
      rintro ee w9 ⟨rfl, n9, hw9⟩
      have K9 : Kp [] W2 w9 := by rw [hw9]; exact kp_drewN _ _
      have G9 := K9.heap (unhide HG0m) (by simp)
      have HK9 := hide ((unhide HKW).trans K9)
      clear HEnd hw9 K9 HG0m HKW
      go_wp2_with (refine wpList_store_man rfl (.tmp 2) (.tmp 34) rfl g0 rfl _ _ _ _ _ _ _ _ G9 rfl ⟨rfl, rfl, rfl, rfl⟩ ?_; intro wa Ga Ka)
      refine bodyPost_ret (results_man rfl _ rfl Ga) rfl ?_
      exact ⟨_, by rw [unhide HNO]; rfl, by rw [ansM_no (unhide HNO)]; exact man0_v _, (unhide HK9).then Ka (fun i hi => .inr (by simp at hi; omega))⟩
    · cases rb
      · have HNO : Hid (okM B = false) := hide (by rw [unhide HOK]; rfl)
        clear HOK
        go_wp2_with fail
        refine (unhide HEnd).mono ?_
        rintro ee w9 ⟨rfl, n9, hw9⟩
        have K9 : Kp [] W2 w9 := by rw [hw9]; exact kp_drewN _ _
        have HC9 := hide (unhide HRgt w9 K9)
        obtain ⟨z0, z1, z2, z3⟩ := cell_man (K9.heap (unhide HGm) (by simp))
        have HG9 := hide (K9.heap (unhide HG0m) (by simp))
        have HK9 := hide ((unhide HKW).trans K9)
        clear HEnd hw9 K9 HG0m HKW HRgt
        go_wp2_with fail
        refine (unhide HC9).mono ?_
        rintro ee w10 ⟨rfl, K10⟩
        have G10 := K10.heap (unhide HG9) (by simp)
        have HK10 := hide ((unhide HK9).trans K10)
        clear z0 z1 z2 z3 HC9 K10 HG9 HK9
        go_wp2_with (refine wpList_store_man rfl (.tmp 2) (.tmp 34) rfl g0 rfl _ _ _ _ _ _ _ _ G10 rfl ⟨rfl, rfl, rfl, rfl⟩ ?_; intro wa Ga Ka)
        refine bodyPost_ret (results_man rfl _ rfl Ga) rfl ?_
        exact ⟨_, by rw [unhide HNO]; rfl, by rw [ansM_no (unhide HNO)]; exact man0_v _, (unhide HK10).then Ka (fun i hi => .inr (by simp at hi; omega))⟩
      · have HYES : Hid (okM B = true) := hide (by rw [unhide HOK]; rfl)
        clear HOK
        go_wp2_with fail
        refine (unhide HEnd).mono ?_
        rintro ee w9 ⟨rfl, n9, hw9⟩
        have K9 : Kp [] W2 w9 := by rw [hw9]; exact kp_drewN _ _
        have HC9 := hide (unhide HRgt w9 K9)
        have Gm9 := K9.heap (unhide HGm) (by simp)
        obtain ⟨z0, z1, z2, z3⟩ := cell_man Gm9
        have HG9 := hide (K9.heap (unhide HG0m) (by simp))
        have HGm9 := hide Gm9
        have HV9 := hide ((unhide HVm).kept K9)
        have HK9 := hide ((unhide HKW).trans K9)
        clear HEnd hw9 K9 HG0m HKW HRgt Gm9 HGm HVm
        go_wp2_with fail
        refine (unhide HC9).mono ?_
        rintro ee w10 ⟨rfl, K10⟩
        have G10 := K10.heap (unhide HG9) (by simp)
        have HGm10 := hide (K10.heap (unhide HGm9) (by simp))
        have HK10 := hide ((unhide HK9).trans K10)
        have HV10 := hide ((unhide HV9).kept K10)
        have HN0 := hide (noBy_man G10)
        clear z0 z1 z2 z3 HC9 K10 HG9 HK9 HGm9 HV9
        go_wp2_with (refine wpList_load_row rfl 99 (.tmp 6) rfl g6 rfl 99 _ (0, 0) _ (unhide HGm10) Tryz.underlying99 rfl Tryz.manSize ?_; refine Hid.out ?_)
        refine hide ?_
        go_wp2_with (refine wpList_store_man rfl (.tmp 2) (.tmp 35) rfl g0 rfl _ _ _ _ _ _ _ _ G10 rfl ⟨rfl, rfl, rfl, rfl⟩ ?_; intro wa Ga Ka)
        refine bodyPost_ret (results_man rfl _ rfl Ga) rfl ?_
        exact ⟨_, by rw [unhide HYES]; rfl, by rw [ansM_yes (unhide HYES)]; exact (unhide HV10).offBy (unhide HN0) Ka, (unhide HK10).then Ka (fun i hi => .inr (by simp at hi; omega))⟩
  · have HNO : Hid (okM B = false) := hide (by rw [unhide HOK, decide_eq_false h77]; rfl)
    have h77' : (t == 77) = false := beq_eq_false_iff_ne.2 h77
    have G0 := unhide HG0m
    clear HOK HEnd HRgt
    go_wp2_with (refine wpList_store_man rfl (.tmp 2) (.tmp 34) rfl g0 rfl _ _ _ _ _ _ _ _ G0 rfl ⟨rfl, rfl, rfl, rfl⟩ ?_; intro wa Ga Ka)
    refine bodyPost_ret (results_man rfl _ rfl Ga) rfl ?_
    exact ⟨_, by rw [unhide HNO]; rfl, by rw [ansM_no (unhide HNO)]; exact man0_v _, (unhide HKW).then Ka (fun i hi => .inr (by simp at hi; omega))⟩
end Go.Proofs.YteabdojjllfcpaaGreat
