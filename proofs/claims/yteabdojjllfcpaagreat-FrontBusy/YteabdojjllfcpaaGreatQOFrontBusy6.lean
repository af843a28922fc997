/-
  For every room and limit: a full queue, or a full disk, takes nothing; what has a receipt already is told it all the same.
-/
import Derived.Test.YteabdojjllfcpaaGreatQOFrontBusy5
namespace Go.Proofs.YteabdojjllfcpaaGreat.frontBusy
open Go.ChangeShapes Go.WideShapes Go.ChangeAt Go.RowKit
open Go.Proofs.YteabdojjllfcpaaGreat
set_option linter.unusedVariables false
theorem own : ownKnob Tryz.prog.godebug = none := by kernel_rfl
open Go.Proofs
/-- m of them, all since 0. -/
def tmZ (m : Nat) : List It := (List.range m).map (fun i => ⟨itK i, 0⟩)
theorem tmZ_len (m : Nat) : (tmZ m).length = m := by simp [tmZ]
theorem tmZ_succ (m : Nat) : tmZ (m + 1) = tmZ m ++ [⟨itK m, 0⟩] := by simp [tmZ, List.range_succ]
theorem tmZ_bs (m : Nat) : (tmZ m).map It.bs = rcK m := by simp [tmZ, rcK, Function.comp_def]
def zS (r : Int) (m : Nat) : FS := ⟨r, 8, 1000, tmZ m, rcK m, dkOn (layP (rcK m)), m⟩
theorem zS_new (r : Int) (m : Nat) (hm : m < 12) (hr : (m : Int) < r) : subP [] (zS r m) (itK m) 0 = (1, (m : Int), zS r (m + 1)) := by
  rw [subP_new (D := layP (rcK m)) (itK_ok m) (by simp) (by rw [any_same]; show decide (itK m ∈ (tmZ m).map It.bs) = false; rw [tmZ_bs]; exact decide_eq_false (rcK_new hm)) (by show ((tmZ m).length : Int) < r; rw [tmZ_len]; exact hr) rfl (by rw [recP_len]; have := layK_len m; have := itK_len m; omega)]
  unfold zS FS.put
  simp only [rcK_len, tmZ_succ, rcK_succ, layP_snoc]
theorem zS_full (m j : Nat) (hj : j < 12) (hm : m ≤ j) : subP [] (zS (m : Int) m) (itK j) 0 = (3, 0, zS (m : Int) m) := by
  have hno : (tmZ m).any (sameI (itK j)) = false := by
    rw [any_same, tmZ_bs]
    refine decide_eq_false (fun h => ?_)
    obtain ⟨i, hi, e⟩ := rcK_mem h
    exact itK_ne (by omega) hj (by omega) e.symm
  unfold subP
  rw [if_neg (by rw [itK_ok]; decide), if_neg (by simp), if_neg (by show ¬ (tmZ m).any (sameI (itK j)) = true; rw [hno]; decide), if_pos (by show (m : Int) ≤ ((tmZ m).length : Int); rw [tmZ_len]; exact Int.le_refl _)]
theorem zS_same (r : Int) (m : Nat) (hm : 0 < m) (t : Int) : subP [] (zS r m) (itK 0) t = (1, 0, zS r m) := by
  obtain ⟨m', rfl⟩ : ∃ m', m = m' + 1 := ⟨m - 1, by omega⟩
  have hrc : rcK (m' + 1) = itK 0 :: (List.range m').map (fun i => itK (i + 1)) := by simp [rcK, List.range_succ_eq_map, Function.comp_def]
  have hmem : itK 0 ∈ rcK (m' + 1) := by rw [hrc]; simp
  unfold subP
  rw [if_neg (by rw [itK_ok]; decide), if_neg (by simp), if_pos (by show (tmZ (m' + 1)).any (sameI (itK 0)) = true; rw [any_same, tmZ_bs]; exact decide_eq_true hmem), if_pos (by exact hmem)]
  show (1, (((rcK (m' + 1)).idxOf (itK 0) : Nat) : Int), _) = _
  rw [hrc, List.idxOf_cons_self]
  rfl
/-- what holds while a region draws: the law's world, whatever its footprints. -/
def StF (w0 : World) (x p l pd pl pk : Nat) (S : FS) (L : LS) (f : Fps) (vw : Value) : Array Bool → World → (Nat → Prop) → Prop := fun _ w F => ∃ g, F = two2 g f ∧ Wz w0 w x p l pd pl pk S L g f vw (.slice none 0 0) (.slice none 0 0)
theorem fgrow_any {w0 w : World} {p l pd : Nat} {S : FS} {g : Fps} (h : Fg w0 w p l pd S g) (x : Int) (er : Bool) (d' : Dk) (he : S.d.grow x = (er, d')) : Calls Tryz.prog 30 #[.pointer (some ⟨pd, 0, none⟩), .int .i64 x] w fun e w' => e = .returned (.bool er) ∧ ∃ g', Fg w0 w' p l pd { S with d := d' } g' ∧ Stp g.tot w w' g'.tot := by
  obtain ⟨j, q, vr, hx⟩ := h
  obtain ⟨v, m, h1, hJ, h3, h4⟩ := hx.jx
  refine (nw_grow hJ.nw x er he).mono ?_
  rintro e w' ⟨rfl, N, T⟩
  obtain ⟨F', J', T'⟩ := Jx.stepD ⟨m, h1, hJ, h3, h4⟩ N T
  exact ⟨rfl, g.upd 3 F', ⟨j, q, vr, hx.stepJ T' J'⟩, T'.one⟩
theorem wz_grow {w0 w : World} {x p l pd pl pk : Nat} {S : FS} {L : LS} {g f : Fps} {vw vrc vq : Value} (h : Wz w0 w x p l pd pl pk S L g f vw vrc vq) (n : Int) (er : Bool) (d' : Dk) (he : S.d.grow n = (er, d')) : Calls Tryz.prog 30 #[.pointer (some ⟨pd, 0, none⟩), .int .i64 n] w fun e w' => e = .returned (.bool er) ∧ ∃ g', Wz w0 w' x p l pd pl pk { S with d := d' } L g' f vw vrc vq ∧ Stp (two2 g f) w w' (two2 g' f) := by
  refine (fgrow_any h.bo.fr n er d' he).mono ?_
  rintro e w' ⟨rfl, g', F', T⟩
  obtain ⟨B', T'⟩ := h.bo.stepF F' T
  exact ⟨rfl, g', ⟨B', T'.heap h.at_ h.nx, T'.off h.at_.lt h.nx, h.x0⟩, T'⟩
/-- a front without receipts whose disk has so much room, behind n tries. -/
def yS (lim : Int) (n : Nat) : FS := ⟨8, 8, 1000, [], [], ⟨[], 0, lim, 0, false⟩, n⟩
def yS3 : FS := (yS 1000 1).put ⟨recP (itK 0), (recP (itK 0)).length, 1000, 0, false⟩ (itK 0) 0
theorem yS_full (lim : Int) (h : lim < (itK 0).length + 8) : subP (ls0 (seedX 0)).its (yS lim 0) (itK 0) 0 = (3, 0, yS lim 1) := by
  have hadd : (yS lim 0).d.add (recP (itK 0)) = (false, (yS lim 0).d) := Dk.add_full rfl (Int.le_refl 0) _ (by rw [recP_len]; show lim < ((0 + (8 + (itK 0).length) : Nat) : Int); omega)
  unfold subP
  rw [if_neg (by rw [itK_ok]; decide), if_neg (by simp [ls0]), if_neg (by simp [yS]), if_neg (by simp [yS]), hadd]
  rfl
theorem yS_put : subP (ls0 (seedX 0)).its (yS 1000 1) (itK 0) 0 = (1, 0, yS3) := by
  have hadd : (yS 1000 1).d.add (recP (itK 0)) = (true, ⟨[] ++ recP (itK 0), ([] ++ recP (itK 0)).length, 1000, 0, false⟩) := Dk.add_up (d := (yS 1000 1).d) rfl (Int.le_refl 0) _ (by rw [recP_len]; have := itK_len 0; show ((0 + (8 + (itK 0).length) : Nat) : Int) ≤ 1000; omega)
  unfold subP
  rw [if_neg (by rw [itK_ok]; decide), if_neg (by simp [ls0]), if_neg (by simp [yS]), if_neg (by simp [yS]), hadd, if_pos rfl]
  rfl
/-- what holds of the second front by what was done. -/
def StY (w0 : World) (x p l pd pl pk : Nat) (lim : Int) (f : Fps) (vw : Value) : Array Bool → World → (Nat → Prop) → Prop := fun listed w F => ∃ g, F = two2 g f ∧ Wz w0 w x p l pd pl pk (if listed.getD 37 false = true then yS3 else if listed.getD 29 false = true then yS 1000 1 else if listed.getD 5 false = true then yS lim 1 else yS lim 0) (ls0 (seedX 0)) g f vw (.slice none 0 0) (.slice none 0 0)
set_option maxHeartbeats 16000000 in
set_option maxRecDepth 100000 in
theorem walk (room limit : Int) (w : World) (hr : -9223372036854775808 ≤ room ∧ room ≤ 9223372036854775807) (hs : -9223372036854775808 ≤ limit ∧ limit ≤ 9223372036854775807) :
    Calls Tryz.prog 7 #[.int .i64 room, .int .i64 limit] w fun e w' => e = .returned (.bool true) ∧ Below w.heap.size w w' := by
  have h1 := wiP_ge room 1 8 (by omega)
  have HW1 := hide (within_wi room 1 8 w (by omega) (by omega) (by omega))
  obtain ⟨R, hR⟩ : ∃ R : Nat, (R : Int) = wiP room 1 8 := ⟨(wiP room 1 8).toNat, by omega⟩
  rw [← hR] at h1 HW1
  obtain ⟨hR0, hR1⟩ := h1
  clear hR hr hs
  have HO := hide (open0_any (R : Int) 8 1000 w hR0 (by omega) (by omega) (by omega) (by omega) (by omega))
  go_enter Tryz.func7, Tryz.ntmps7
  go_wp2_with fail
  refine HW1.out.mono ?_
  rintro ee w1 ⟨rfl, hw⟩
  subst w1
  clear HW1
  go_wp2_with fail
  refine HO.out.mono ?_
  rintro ee w1 ⟨x, p, l, pd, pl, pk, g, f, pw, rfl, Z1, -⟩
  obtain ⟨vw, hvw⟩ : ∃ v, v = Value.pointer (some ⟨pw, 0, none⟩) := ⟨_, rfl⟩
  rw [← hvw] at Z1
  have HZ1 : Hid (Wz w w1 x p l pd pl pk (zS (R : Int) 0) (ls0 (seedX 0)) g f vw (.slice none 0 0) (.slice none 0 0)) := Z1
  clear HO Z1 hvw
  go_wp2_with fail
  go_loopw [7] (fun i wr => ∃ k m : Nat, k ≤ 12 ∧ m = min k R ∧ i = .int .i64 k ∧ ∃ g', Wz w wr x p l pd pl pk (zS (R : Int) m) (ls0 (seedX 0)) g' f vw (.slice none 0 0) (.slice none 0 0)) (fun i _ => 12 - (intOf i).toNat)
  case atStart => exact ⟨0, 0, by omega, by omega, rfl, g, HZ1.out⟩
  case round =>
    obtain ⟨k, m, hk, hm, rfl, g2, Zk⟩ := hrel
    have HZk := hide Zk
    clear Zk HZ1
    by_cases hlt : k < 12
    · have hlt' : (k : Int) < 12 := by omega
      have hq1 : (k : Int).tdiv 4 = (k : Int) / 4 := by rw [Int.tdiv_eq_ediv_of_nonneg (by omega)]
      have hq2 : IntKind.i64.wrap ((k : Int) / 4) = (k : Int) / 4 := by simp [IntKind.wrap, IntKind.signed, IntKind.bits]; omega
      have HI := hide (kitem_any (k : Int) ((k : Int) / 4) 0 wr)
      go_wp2_with fail
      refine HI.out.mono ?_
      rintro ee w2 ⟨a2, m2, c2, rfl, R2, K2⟩
      have R2 : Row w2 wr.heap.size (.slice a2 m2 c2) (itK k) := R2
      have Z2 := HZk.out.on K2
      have HO2 := hide (els_row R2 HZk.out.low)
      have hc0 := Z2.at_.c0
      obtain ⟨kk, nn, m', hsub, hm', hkk⟩ : ∃ kk nn m', subP [] (zS (R : Int) m) (itK k) 0 = (kk, nn, zS (R : Int) m') ∧ m' = min (k + 1) R ∧ ((k < R ∧ kk = 1 ∧ nn = (k : Int)) ∨ (R ≤ k ∧ kk = 3 ∧ nn = 0)) := by
        by_cases h : k < R
        · have e : m = k := by omega
          subst e
          exact ⟨1, m, m + 1, zS_new _ _ hlt (by omega), by omega, .inl ⟨h, rfl, rfl⟩⟩
        · have e : m = R := by omega
          subst e
          exact ⟨3, 0, m, zS_full m k hlt (by omega), by omega, .inr ⟨by omega, rfl, rfl⟩⟩
      have HSub := hide (wz_sub Z2 (.slice a2 m2 c2) (itK k) R2.sl (itK_bs k) (by have := itK_len k; omega) (fun i hi e => HO2.out.no i hi (.inl e)) 0 (by omega) (by omega) (by show (rcK m).length ≤ 1000; rw [rcK_len]; omega) (by show m ≤ 1000; omega) _ _ _ hsub)
      clear HI R2 K2 Z2 hsub HZk HO2 hq1 hq2
      go_wp2_with fail
      refine HSub.out.mono ?_
      rintro ee w3 ⟨rfl, g3, Z3, -⟩
      have HZ3 := hide Z3
      clear HSub Z3 hc0
      go_wp2_with (refine wpList_store_flat rfl 57 (.tmp 9) (.tmp 32) rfl w3.heap.size 0 rfl _ _ [.int .i64 kk, .int .i64 nn] (heap_alloc_new w3 _) rfl (by simp) Tryz.ansSize (by simp [Value.oneCell']) #[.int .i64 kk, .int .i64 nn] rfl ?_; intro w4 G4 K4; refine Hid.out ?_)
      have k4 : Kp [] w3 w4 := ((Kp.refl [] w3).alloc _).then K4 (fun i hi => .inr (by simp at hi; omega))
      have HZ4 := hide (HZ3.out.on k4)
      obtain ⟨a10, a11⟩ := ans_cells G4
      have HSub2 : Hid (subP (ls0 (seedX 0)).its (zS (R : Int) m') (itK 0) 5 = (1, 0, zS (R : Int) m')) := zS_same _ _ (by omega) 5
      have HB1 : Hid ((zS (R : Int) m').rc.length ≤ 1000) := by show (rcK m').length ≤ 1000; rw [rcK_len]; omega
      have HB2 : Hid ((zS (R : Int) m').m ≤ 1000) := by show m' ≤ 1000; omega
      obtain ⟨SB, hSB⟩ : ∃ SB, SB = zS (R : Int) m' := ⟨_, rfl⟩
      have HsB : Hid (SB.room = (R : Int) ∧ SB.size = 8 ∧ SB.wait = 1000) := by rw [hSB]; exact ⟨rfl, rfl, rfl⟩
      rw [← hSB] at HZ4 HSub2 HB1 HB2
      have HSB := hide hSB
      have HKeep : Hid (∀ (li lj : Array Bool) (w1 w' : World) (F : Nat → Prop), StF w x p l pd pl pk SB (ls0 (seedX 0)) f vw li w1 F → Kp [] w1 w' → StF w x p l pd pl pk SB (ls0 (seedX 0)) f vw lj w' F) := fun _ _ _ _ _ ⟨g, e, Z⟩ k => ⟨g, e, Z.on k⟩
      have HBes : Hid (∀ (li lj : Array Bool) (w1 w' : World) (F : Nat → Prop) (T : List Nat), StF w x p l pd pl pk SB (ls0 (seedX 0)) f vw li w1 F → Kp T w1 w' → (∀ i ∈ T, ¬ F i ∧ w4.heap.size ≤ i) → StF w x p l pd pl pk SB (ls0 (seedX 0)) f vw lj w' F) := fun _ _ w1 w' F T ⟨g, e, Z⟩ k hT => ⟨g, e, Z.beside k (fun i hi => ⟨Nat.le_trans HZ4.out.bo.kp.size (hT i hi).2, fun h => by
        rcases h with h | h
        · exact (hT i hi).1 (by rw [e]; exact h)
        · have := HZ4.out.at_.lt
          have := (hT i hi).2
          omega⟩)⟩
      have HWd : Hid (∀ (w' : World) {li : Array Bool} {a : Act}, GS 137 w4.heap.size (StF w x p l pd pl pk SB (ls0 (seedX 0)) f vw) [(4, 56)] (fun _ => itK 0) [(6, 10, 7)] (fun _ => (1, 0)) li a w' → Wd w' x (.pointer (some ⟨p, 0, none⟩)) (.pointer (some ⟨l, 0, none⟩)) (.pointer (some ⟨pd, 0, none⟩)) (.pointer (some ⟨pl, 0, none⟩)) (.pointer (some ⟨pk, 0, none⟩)) (R : Int) 8 1000 vw (.slice none 0 0) (.slice none 0 0)) := fun w' _ _ h => by
        obtain ⟨_, F, ⟨g, e, Z⟩, -⟩ := h
        have := Z.at_
        rw [HsB.out.1, HsB.out.2.1, HsB.out.2.2] at this
        exact this
      have HG0 : Hid (∀ (n : Nat) (a : Act), a.tmps.size = 137 → GS 137 w4.heap.size (StF w x p l pd pl pk SB (ls0 (seedX 0)) f vw) [(4, 56)] (fun _ => itK 0) [(6, 10, 7)] (fun _ => (1, 0)) (Array.replicate n false) a w4.drew) := fun n a ha => ⟨ha, _, ⟨g3, rfl, HZ4.out.on (kp_drew w4)⟩, (HZ4.out.on (kp_drew w4)).low, Nat.le_refl _, (fun q hq h => by rw [getD_replicate_false] at h; cases h), (fun q hq h => by rw [getD_replicate_false] at h; cases h)⟩
      clear K4 G4 k4 hSB HZ3
      refine hide ?_
      rcases hkk with ⟨hkR, rfl, rfl⟩ | ⟨hkR, rfl, rfl⟩
      · have hx1 : (k : Int) < (R : Int) := by omega
        have hx2 : ¬ (R : Int) ≤ (k : Int) := by omega
        go_wp2_with fail
        refine region_growL (K := KT) (G := GS 137 w4.heap.size (StF w x p l pd pl pk SB (ls0 (seedX 0)) f vw) [(4, 56)] (fun _ => itK 0) [(6, 10, 7)] (fun _ => (1, 0))) Tryz.mixed [Is (.pointer (some ⟨x, 0, none⟩)), Is (.pointer (some ⟨x, 0, none⟩)), Is (.pointer (some ⟨x, 0, none⟩)), Is (.pointer (some ⟨p, 0, none⟩)), AnyT, Is (ansV 1 0), AnyT, AnyT] [[(6, none)], [(52, some 0)], [(53, some 1)], [(54, some 2)], [], [(55, some 3), (56, some 4)], [], [(10, some 6), (57, some 5)]] (by kernel_rfl) ?_ ?_ ?_ ?_ ?_
        · intro k R hR hd w'
          have hk : k < 8 := by have := (List.getElem?_eq_some_iff.1 hR).1; simpa using this
          rcases (by omega : k = 0 ∨ k = 1 ∨ k = 2 ∨ k = 3 ∨ k = 4 ∨ k = 5 ∨ k = 6 ∨ k = 7) with rfl | rfl | rfl | rfl | rfl | rfl | rfl | rfl <;> first | (exfalso; cases hd; done) | (injection hR with hR; subst hR; exact trivial)
        · simp only [List.mem_cons, List.not_mem_nil, or_false]
          intro R hR
          rcases hR with rfl | rfl | rfl | rfl | rfl | rfl | rfl | rfl <;> first | exact stableG_isM _ | exact stableK_any
        · refine HG0.out _ _ ?_
          rfl
        · refine steps_consL (fun listed a w hnot hdep hcl hsz hg hn => ?_) ?_
          · have h6 : a.eval (.tmp 6) = .pointer (some ⟨x, 0, none⟩) := hn.1
            clear hn
            have hk := hg
            refine wantsS_plain rfl hg (fun w' F s k => HKeep.out _ _ _ _ _ s k) rfl rfl ?_
            refine wants_plain rfl ?_
            exact grown_move (.tmp 6) rfl h6
          refine steps_consL (fun listed a w hnot hdep hcl hsz hg hn => ?_) ?_
          · have h52 : a.eval (.tmp 52) = .pointer (some ⟨x, 0, none⟩) := hn.1
            clear hn
            have hk := hg
            refine wantsS_plain rfl hg (fun w' F s k => HKeep.out _ _ _ _ _ s k) rfl rfl ?_
            refine wants_plain rfl ?_
            refine grown_run (v := .pointer (some ⟨x, 0, none⟩)) ?_ (Kp.refl _ _) rfl
            obtain ⟨ρ, hρ, hc, hf, hg⟩ := eval_is a
            rw [hρ] at h52 ⊢
            simp [go_sem, h52]
          refine steps_consL (fun listed a w hnot hdep hcl hsz hg hn => ?_) ?_
          · have h53 : a.eval (.tmp 53) = .pointer (some ⟨x, 0, none⟩) := hn.1
            clear hn
            have hk := hg
            refine wantsS_plain rfl hg (fun w' F s k => HKeep.out _ _ _ _ _ s k) rfl rfl ?_
            refine wants_plain rfl ?_
            refine grown_run (v := .pointer (some ⟨x, 0, none⟩)) ?_ (Kp.refl _ _) rfl
            obtain ⟨ρ, hρ, hc, hf, hg⟩ := eval_is a
            rw [hρ] at h53 ⊢
            simp [go_sem, h53]
          refine steps_consL (fun listed a w hnot hdep hcl hsz hg hn => ?_) ?_
          · have h54 : a.eval (.tmp 54) = .pointer (some ⟨x, 0, none⟩) := hn.1
            clear hn
            have hk := hg
            refine wantsS_plain rfl hg (fun w' F s k => HKeep.out _ _ _ _ _ s k) rfl rfl ?_
            refine wants_plain rfl ?_
            refine grown_run (v := .pointer (some ⟨p, 0, none⟩)) ?_ (Kp.refl _ _) rfl
            have hcell : w.cell? ⟨x, 0, none⟩ = some (.pointer (some ⟨p, 0, none⟩)) := by rw [cell_of_row w x 0 _ _ _ (HWd.out w hk)]; rfl
            obtain ⟨ρ, hρ, hc, hf, hg⟩ := eval_is a
            rw [hρ] at h54 ⊢
            simp [go_sem, h54, hcell]
          refine steps_consL (fun listed a w hnot hdep hcl hsz hg hn => ?_) ?_
          · clear hn
            have hk := hg
            refine wantsG_call rfl (f := 15) rfl Tryz.func15 (by kernel_rfl) (by kernel_rfl) ?_
            simp only [List.map_toArray, List.map_cons, List.map_nil]
            refine (kitem_any 0 0 0 w).mono ?_
            rintro e w' ⟨ao, m, c, rfl, R, K⟩
            exact ⟨_, rfl, ⟨trivial, hg.item (fun F s k => HKeep.out _ _ _ _ _ s k) rfl rfl (by decide) K ⟨ao, m, c, rfl⟩ R⟩, trivial⟩
          refine steps_consL (fun listed a w hnot hdep hcl hsz hg hn => ?_) ?_
          · have h55 : a.eval (.tmp 55) = .pointer (some ⟨p, 0, none⟩) := hn.1
            have h56 : (AnyT) (a.eval (.tmp 56)) w := hn.2.1
            clear hn
            have hk := hg
            obtain ⟨sz, F, ⟨g', eF, Z'⟩, s2, s3, s4, s5⟩ := hg
            obtain ⟨⟨ai, mi, ci, ei⟩, El, Sli⟩ := s4 (4, 56) (by simp) (anc_listed hcl 30 5 4 rfl hdep (by kernel_rfl)) (fun r hr => by simp at hr; subst hr; exact anc_not hcl 30 7 5 (by kernel_rfl) hnot)
            have ei : a.eval (.tmp 56) = .slice ai mi ci := ei
            have El : Els F w (a.eval (.tmp 56)) := El
            have Sli : Sl w (a.eval (.tmp 56)) (itK 0) := Sli
            rw [ei] at El Sli
            have HSb := wz_sub Z' (.slice ai mi ci) (itK 0) Sli (itK_bs 0) (by have := itK_len 0; omega) (fun i hi e => El.no i hi (by rw [eF]; exact .inl e)) 5 (by omega) (by omega) HB1.out HB2.out _ _ _ HSub2.out
            refine wantsG_call rfl (f := 24) rfl Tryz.func24 (by kernel_rfl) (by kernel_rfl) ?_
            simp only [List.map_toArray, List.map_cons, List.map_nil, h55, ei]
            refine HSb.mono ?_
            rintro e w' ⟨rfl, g2', Z2, T2⟩
            exact ⟨_, rfl, ⟨trivial, GS.step sz s2 s3 s4 s5 rfl rfl (F' := two2 g2' f) (by rw [eF]; exact T2) ⟨g2', rfl, Z2⟩⟩, rfl⟩
          refine steps_consL (fun listed a w hnot hdep hcl hsz hg hn => ?_) ?_
          · clear hn
            have hk := hg
            exact wantsS_alloc rfl rfl rfl hg (fun w' F s k => HKeep.out _ _ _ _ _ s k) rfl rfl (by decide) (anc_not hcl 30 7 6 (by kernel_rfl) hnot) (by decide)
          refine steps_consL (fun listed a w hnot hdep hcl hsz hg hn => ?_) ?_
          · have h10 : (AnyT) (a.eval (.tmp 10)) w := hn.1
            have h57 : a.eval (.tmp 57) = ansV 1 0 := hn.2.1
            clear hn
            have hk := hg
            exact wantsS_store rfl rfl rfl h57 hg (fun w' F T s k hT => HBes.out _ _ _ _ _ _ s k hT) rfl hsz (anc_listed hcl 30 7 6 rfl hdep (by kernel_rfl)) (by decide) rfl
          exact trivial
        intro W1
        rintro _ rfl
        rintro _ rfl
        rintro _ rfl
        rintro _ rfl
        intro v56 h56
        rintro _ rfl
        intro v10 h10
        intro vm1 hm1
        refine fin_nil ?_
        intro listed hall hg
        simp only [Act.put, List.set_cons_zero, List.set_cons_succ, List.setIfInBounds_toArray] at hg ⊢
        obtain ⟨-, F, ⟨g5, eF, Z5⟩, -, -, -, hav⟩ := hg
        obtain ⟨ga, ka, na, e10, -, -, -, hA, hst⟩ := hav (6, 10, 7) (by simp) (hall 6 (by decide))
        have e10 : v10 = .pointer (some ⟨ga, 0, none⟩) := e10
        have hkn : (ka, na) = ((1, 0) : Int × Int) := hst (hall 7 (by decide))
        simp only [Prod.mk.injEq] at hkn
        obtain ⟨eka, ena⟩ := hkn
        subst e10 eka ena
        obtain ⟨b10, b11⟩ := ans_cells hA
        have hSB := HSB.out
        subst hSB
        have HZ5 := hide Z5
        clear hall hav Z5 hA hst HZ4 HSub2 HKeep HBes HWd HG0 a10 a11
        go_wp2_with fail
        go_roundw
        case rel => exact ⟨k + 1, m', by omega, hm', by go_num, g5, HZ5.out⟩
        case measure => simp [intOf]; omega
      · have hx1 : ¬ (k : Int) < (R : Int) := by omega
        have hx2 : (R : Int) ≤ (k : Int) := by omega
        go_wp2_with fail
        refine region_growL (K := KT) (G := GS 137 w4.heap.size (StF w x p l pd pl pk SB (ls0 (seedX 0)) f vw) [(4, 56)] (fun _ => itK 0) [(6, 10, 7)] (fun _ => (1, 0))) Tryz.mixed [Is (.pointer (some ⟨x, 0, none⟩)), Is (.pointer (some ⟨x, 0, none⟩)), Is (.pointer (some ⟨x, 0, none⟩)), Is (.pointer (some ⟨p, 0, none⟩)), AnyT, Is (ansV 1 0), AnyT, AnyT] [[(6, none)], [(52, some 0)], [(53, some 1)], [(54, some 2)], [], [(55, some 3), (56, some 4)], [], [(10, some 6), (57, some 5)]] (by kernel_rfl) ?_ ?_ ?_ ?_ ?_
        · intro k R hR hd w'
          have hk : k < 8 := by have := (List.getElem?_eq_some_iff.1 hR).1; simpa using this
          rcases (by omega : k = 0 ∨ k = 1 ∨ k = 2 ∨ k = 3 ∨ k = 4 ∨ k = 5 ∨ k = 6 ∨ k = 7) with rfl | rfl | rfl | rfl | rfl | rfl | rfl | rfl <;> first | (exfalso; cases hd; done) | (injection hR with hR; subst hR; exact trivial)
        · simp only [List.mem_cons, List.not_mem_nil, or_false]
          intro R hR
          rcases hR with rfl | rfl | rfl | rfl | rfl | rfl | rfl | rfl <;> first | exact stableG_isM _ | exact stableK_any
        · refine HG0.out _ _ ?_
          rfl
        · refine steps_consL (fun listed a w hnot hdep hcl hsz hg hn => ?_) ?_
          · have h6 : a.eval (.tmp 6) = .pointer (some ⟨x, 0, none⟩) := hn.1
            clear hn
            have hk := hg
            refine wantsS_plain rfl hg (fun w' F s k => HKeep.out _ _ _ _ _ s k) rfl rfl ?_
            refine wants_plain rfl ?_
            exact grown_move (.tmp 6) rfl h6
          refine steps_consL (fun listed a w hnot hdep hcl hsz hg hn => ?_) ?_
          · have h52 : a.eval (.tmp 52) = .pointer (some ⟨x, 0, none⟩) := hn.1
            clear hn
            have hk := hg
            refine wantsS_plain rfl hg (fun w' F s k => HKeep.out _ _ _ _ _ s k) rfl rfl ?_
            refine wants_plain rfl ?_
            refine grown_run (v := .pointer (some ⟨x, 0, none⟩)) ?_ (Kp.refl _ _) rfl
            obtain ⟨ρ, hρ, hc, hf, hg⟩ := eval_is a
            rw [hρ] at h52 ⊢
            simp [go_sem, h52]
          refine steps_consL (fun listed a w hnot hdep hcl hsz hg hn => ?_) ?_
          · have h53 : a.eval (.tmp 53) = .pointer (some ⟨x, 0, none⟩) := hn.1
            clear hn
            have hk := hg
            refine wantsS_plain rfl hg (fun w' F s k => HKeep.out _ _ _ _ _ s k) rfl rfl ?_
            refine wants_plain rfl ?_
            refine grown_run (v := .pointer (some ⟨x, 0, none⟩)) ?_ (Kp.refl _ _) rfl
            obtain ⟨ρ, hρ, hc, hf, hg⟩ := eval_is a
            rw [hρ] at h53 ⊢
            simp [go_sem, h53]
          refine steps_consL (fun listed a w hnot hdep hcl hsz hg hn => ?_) ?_
          · have h54 : a.eval (.tmp 54) = .pointer (some ⟨x, 0, none⟩) := hn.1
            clear hn
            have hk := hg
            refine wantsS_plain rfl hg (fun w' F s k => HKeep.out _ _ _ _ _ s k) rfl rfl ?_
            refine wants_plain rfl ?_
            refine grown_run (v := .pointer (some ⟨p, 0, none⟩)) ?_ (Kp.refl _ _) rfl
            have hcell : w.cell? ⟨x, 0, none⟩ = some (.pointer (some ⟨p, 0, none⟩)) := by rw [cell_of_row w x 0 _ _ _ (HWd.out w hk)]; rfl
            obtain ⟨ρ, hρ, hc, hf, hg⟩ := eval_is a
            rw [hρ] at h54 ⊢
            simp [go_sem, h54, hcell]
          refine steps_consL (fun listed a w hnot hdep hcl hsz hg hn => ?_) ?_
          · clear hn
            have hk := hg
            refine wantsG_call rfl (f := 15) rfl Tryz.func15 (by kernel_rfl) (by kernel_rfl) ?_
            simp only [List.map_toArray, List.map_cons, List.map_nil]
            refine (kitem_any 0 0 0 w).mono ?_
            rintro e w' ⟨ao, m, c, rfl, R, K⟩
            exact ⟨_, rfl, ⟨trivial, hg.item (fun F s k => HKeep.out _ _ _ _ _ s k) rfl rfl (by decide) K ⟨ao, m, c, rfl⟩ R⟩, trivial⟩
          refine steps_consL (fun listed a w hnot hdep hcl hsz hg hn => ?_) ?_
          · have h55 : a.eval (.tmp 55) = .pointer (some ⟨p, 0, none⟩) := hn.1
            have h56 : (AnyT) (a.eval (.tmp 56)) w := hn.2.1
            clear hn
            have hk := hg
            obtain ⟨sz, F, ⟨g', eF, Z'⟩, s2, s3, s4, s5⟩ := hg
            obtain ⟨⟨ai, mi, ci, ei⟩, El, Sli⟩ := s4 (4, 56) (by simp) (anc_listed hcl 30 5 4 rfl hdep (by kernel_rfl)) (fun r hr => by simp at hr; subst hr; exact anc_not hcl 30 7 5 (by kernel_rfl) hnot)
            have ei : a.eval (.tmp 56) = .slice ai mi ci := ei
            have El : Els F w (a.eval (.tmp 56)) := El
            have Sli : Sl w (a.eval (.tmp 56)) (itK 0) := Sli
            rw [ei] at El Sli
            have HSb := wz_sub Z' (.slice ai mi ci) (itK 0) Sli (itK_bs 0) (by have := itK_len 0; omega) (fun i hi e => El.no i hi (by rw [eF]; exact .inl e)) 5 (by omega) (by omega) HB1.out HB2.out _ _ _ HSub2.out
            refine wantsG_call rfl (f := 24) rfl Tryz.func24 (by kernel_rfl) (by kernel_rfl) ?_
            simp only [List.map_toArray, List.map_cons, List.map_nil, h55, ei]
            refine HSb.mono ?_
            rintro e w' ⟨rfl, g2', Z2, T2⟩
            exact ⟨_, rfl, ⟨trivial, GS.step sz s2 s3 s4 s5 rfl rfl (F' := two2 g2' f) (by rw [eF]; exact T2) ⟨g2', rfl, Z2⟩⟩, rfl⟩
          refine steps_consL (fun listed a w hnot hdep hcl hsz hg hn => ?_) ?_
          · clear hn
            have hk := hg
            exact wantsS_alloc rfl rfl rfl hg (fun w' F s k => HKeep.out _ _ _ _ _ s k) rfl rfl (by decide) (anc_not hcl 30 7 6 (by kernel_rfl) hnot) (by decide)
          refine steps_consL (fun listed a w hnot hdep hcl hsz hg hn => ?_) ?_
          · have h10 : (AnyT) (a.eval (.tmp 10)) w := hn.1
            have h57 : a.eval (.tmp 57) = ansV 1 0 := hn.2.1
            clear hn
            have hk := hg
            exact wantsS_store rfl rfl rfl h57 hg (fun w' F T s k hT => HBes.out _ _ _ _ _ _ s k hT) rfl hsz (anc_listed hcl 30 7 6 rfl hdep (by kernel_rfl)) (by decide) rfl
          exact trivial
        intro W1
        rintro _ rfl
        rintro _ rfl
        rintro _ rfl
        rintro _ rfl
        intro v56 h56
        rintro _ rfl
        intro v10 h10
        intro vm1 hm1
        refine fin_nil ?_
        intro listed hall hg
        simp only [Act.put, List.set_cons_zero, List.set_cons_succ, List.setIfInBounds_toArray] at hg ⊢
        obtain ⟨-, F, ⟨g5, eF, Z5⟩, -, -, -, hav⟩ := hg
        obtain ⟨ga, ka, na, e10, -, -, -, hA, hst⟩ := hav (6, 10, 7) (by simp) (hall 6 (by decide))
        have e10 : v10 = .pointer (some ⟨ga, 0, none⟩) := e10
        have hkn : (ka, na) = ((1, 0) : Int × Int) := hst (hall 7 (by decide))
        simp only [Prod.mk.injEq] at hkn
        obtain ⟨eka, ena⟩ := hkn
        subst e10 eka ena
        obtain ⟨b10, b11⟩ := ans_cells hA
        have hSB := HSB.out
        subst hSB
        have HZ5 := hide Z5
        clear hall hav Z5 hA hst HZ4 HSub2 HKeep HBes HWd HG0 a10 a11
        go_wp2_with fail
        go_roundw
        case rel => exact ⟨k + 1, m', by omega, hm', by go_num, g5, HZ5.out⟩
        case measure => simp [intOf]; omega
    · have hnlt : ¬ (k : Int) < 12 := by omega
      have hmR : m = R := by omega
      subst hmR
      clear hm
      have hc0 := HZk.out.at_.c0
      have HRc := hide (frcs_any HZk.out.bo.fr m (by show m = (rcK m).length; rw [rcK_len]))
      have HWt := hide (fwaits_any HZk.out.bo.fr m (by show m = (tmZ m).length; rw [tmZ_len]))
      have HO2 := hide (open0_any 8 8 1000 wr (by omega) (by omega) (by omega) (by omega) (by omega) (by omega))
      have HK5 := hide HZk.out.bo.kp
      clear HZk
      go_wp2_with fail
      refine HRc.out.mono ?_
      rintro ee w5 ⟨rfl, hw⟩
      subst w5
      clear HRc
      go_wp2_with fail
      refine HWt.out.mono ?_
      rintro ee w5 ⟨rfl, hw⟩
      subst w5
      clear HWt hc0
      go_wp2_with fail
      obtain ⟨w5, hw5⟩ : ∃ z, z = wr := ⟨_, rfl⟩
      rw [← hw5] at HO2 HK5 ⊢
      clear hw5
      refine HO2.out.mono ?_
      rintro ee w6 ⟨y, p2, l2, pd2, pl2, pk2, g6, f2, pw2, rfl, Z6, -⟩
      obtain ⟨vw2, hvw⟩ : ∃ v, v = Value.pointer (some ⟨pw2, 0, none⟩) := ⟨_, rfl⟩
      rw [← hvw] at Z6
      have HZ6 := hide Z6
      have HIt := hide (kitem_any 0 0 0 w6)
      clear HO2 Z6 hvw
      go_wp2_with fail
      refine HIt.out.mono ?_
      rintro ee w7 ⟨a7, m7, c7, rfl, R7, K7⟩
      have R7 : Row w7 w6.heap.size (.slice a7 m7 c7) (itK 0) := R7
      obtain ⟨a7', c7', e7⟩ := R7.shape
      injection e7 with e71 e72 e73
      have HZ7 := hide (HZ6.out.on K7)
      have hnl := itK_len 0
      obtain ⟨nb, hnb⟩ : ∃ nb : Nat, nb = (itK 0).length + 8 := ⟨_, rfl⟩
      have hwn : IntKind.i64.wrap ((m7 : Int) + 8) = (nb : Int) := by rw [e72, hnb]; simp [IntKind.wrap, IntKind.signed, IntKind.bits]; omega
      have hlw := wiP_ge limit 0 ((nb : Int) - 1) (by omega)
      have HWl := hide (fun w => within_wi limit 0 ((nb : Int) - 1) w (by omega) (by omega) (by omega))
      obtain ⟨L0, hL0⟩ : ∃ L, L = wiP limit 0 ((nb : Int) - 1) := ⟨_, rfl⟩
      rw [← hL0] at hlw HWl
      have HN1 : Hid (IntKind.i64.wrap ((nb : Int) - 1) = (nb : Int) - 1) := hide (by simp [IntKind.wrap, IntKind.signed, IntKind.bits]; omega)
      have Hlw := hide hlw
      have Hnb := hide hnb
      have Hnl := hide hnl
      have HWd : Hid (∀ w', Kp [] w7.drew w' → Wd w' y (.pointer (some ⟨p2, 0, none⟩)) (.pointer (some ⟨l2, 0, none⟩)) (.pointer (some ⟨pd2, 0, none⟩)) (.pointer (some ⟨pl2, 0, none⟩)) (.pointer (some ⟨pk2, 0, none⟩)) 8 8 1000 vw2 (.slice none 0 0) (.slice none 0 0)) := fun w' k => (HZ7.out.on ((kp_drew w7).trans k)).at_
      clear HIt R7 K7 e71 e72 e73 HZ6 hnl hnb hL0 hlw
      go_wp2_with fail
      refine region_grow_tail 8 Tryz.mixed [Is (.pointer (some ⟨y, 0, none⟩)), Is (.pointer (some ⟨y, 0, none⟩)), Is (.pointer (some ⟨y, 2, none⟩)), Is (.pointer (some ⟨pd2, 0, none⟩)), Is (.int .i64 limit), Is (.int .i64 (nb : Int)), Is (.int .i64 ((nb : Int) - 1)), Is (.int .i64 L0)] [[(11, none)], [(83, some 0)], [(84, some 1)], [(85, some 2)], [(1, none)], [(12, none)], [(88, some 5)], [(87, some 4), (89, some 6)]] (by kernel_rfl) ?_ ?_ ?_
      all_goals try simp only [List.take_succ_cons, List.take_zero, List.drop_succ_cons, List.drop_zero]
      · simp only [List.mem_cons, List.not_mem_nil, or_false]
        intro R hR
        rcases hR with rfl | rfl | rfl | rfl | rfl | rfl | rfl | rfl <;> first | exact stable_is _
      · refine steps_cons (fun a w hk hn => ?_) ?_
        · have h11 : a.eval (.tmp 11) = .pointer (some ⟨y, 0, none⟩) := hn.1
          clear hn
          refine wants_plain rfl ?_
          exact grown_move (.tmp 11) rfl h11
        refine steps_cons (fun a w hk hn => ?_) ?_
        · have h83 : a.eval (.tmp 83) = .pointer (some ⟨y, 0, none⟩) := hn.1
          clear hn
          refine wants_plain rfl ?_
          refine grown_run (v := .pointer (some ⟨y, 0, none⟩)) ?_ (Kp.refl _ _) rfl
          obtain ⟨ρ, hρ, hc, hf, hg⟩ := eval_is a
          rw [hρ] at h83 ⊢
          simp [go_sem, h83]
        refine steps_cons (fun a w hk hn => ?_) ?_
        · have h84 : a.eval (.tmp 84) = .pointer (some ⟨y, 0, none⟩) := hn.1
          clear hn
          refine wants_plain rfl ?_
          refine grown_run (v := .pointer (some ⟨y, 2, none⟩)) ?_ (Kp.refl _ _) rfl
          obtain ⟨ρ, hρ, hc, hf, hg⟩ := eval_is a
          rw [hρ] at h84 ⊢
          simp [go_sem, h84]
        refine steps_cons (fun a w hk hn => ?_) ?_
        · have h85 : a.eval (.tmp 85) = .pointer (some ⟨y, 2, none⟩) := hn.1
          clear hn
          refine wants_plain rfl ?_
          refine grown_run (v := .pointer (some ⟨pd2, 0, none⟩)) ?_ (Kp.refl _ _) rfl
          have hcell : w.cell? ⟨y, 2, none⟩ = some (.pointer (some ⟨pd2, 0, none⟩)) := by rw [cell_of_row w y 2 _ _ _ (HWd.out w hk)]; rfl
          obtain ⟨ρ, hρ, hc, hf, hg⟩ := eval_is a
          rw [hρ] at h85 ⊢
          simp [go_sem, h85, hcell]
        refine steps_cons (fun a w hk hn => ?_) ?_
        · have h1 : a.eval (.tmp 1) = .int .i64 limit := hn.1
          clear hn
          refine wants_plain rfl ?_
          exact grown_move (.tmp 1) rfl h1
        refine steps_cons (fun a w hk hn => ?_) ?_
        · have h12 : a.eval (.tmp 12) = .int .i64 (nb : Int) := hn.1
          clear hn
          refine wants_plain rfl ?_
          exact grown_move (.tmp 12) rfl h12
        refine steps_cons (fun a w hk hn => ?_) ?_
        · have h88 : a.eval (.tmp 88) = .int .i64 (nb : Int) := hn.1
          clear hn
          refine wants_plain rfl ?_
          refine grown_run (v := .int .i64 ((nb : Int) - 1)) ?_ (Kp.refl _ _) rfl
          obtain ⟨ρ, hρ, hc, hf, hg⟩ := eval_is a
          rw [hρ] at h88 ⊢
          simp [go_sem, hc, h88, HN1.out]
        refine steps_cons (fun a w hk hn => ?_) ?_
        · have h87 : a.eval (.tmp 87) = .int .i64 limit := hn.1
          have h89 : a.eval (.tmp 89) = .int .i64 ((nb : Int) - 1) := hn.2.1
          clear hn
          refine wants_plain rfl ?_
          refine grown_call (f := 20) rfl Tryz.func20 (by kernel_rfl) (by kernel_rfl) ?_
          simp only [List.map_toArray, List.map_cons, List.map_nil, h87, h89]
          refine (HWl.out w).mono ?_
          rintro e w' ⟨rfl, rfl⟩
          exact ⟨_, rfl, Kp.refl _ _, rfl⟩
        exact trivial
      intro W2 hkW2
      rintro _ rfl
      rintro _ rfl
      rintro _ rfl
      rintro _ rfl
      rintro _ rfl
      rintro _ rfl
      rintro _ rfl
      rintro _ rfl
      refine fin_nil ?_
      simp only [Act.put, List.set_cons_zero, List.set_cons_succ, List.setIfInBounds_toArray]
      have hgr : (fs0 8 8 1000).d.grow L0 = (true, ⟨[], 0, L0, 0, false⟩) := by
        unfold Dk.grow
        have h1 := Hlw.out.1
        have h2 := Hlw.out.2
        have h3 := Hnb.out
        have h4 := Hnl.out
        rw [if_pos ⟨by show ((0 : Nat) : Int) ≤ L0; omega, by omega⟩]
        rfl
      have HGr := hide (wz_grow (HZ7.out.on ((kp_drew w7).trans hkW2)) L0 true _ hgr)
      clear HZ7 HWd HWl HN1 hgr
      go_wp2_with fail
      refine HGr.out.mono ?_
      rintro ee wY ⟨rfl, gY, ZY, -⟩
      have HZY : Hid (Wz w5 wY y p2 l2 pd2 pl2 pk2 (yS L0 0) (ls0 (seedX 0)) gY f2 vw2 (.slice none 0 0) (.slice none 0 0)) := ZY
      have HSub1 := hide (yS_full L0 (by have h1 := Hlw.out.2; have h2 := Hnb.out; omega))
      have HSub3 := hide yS_put
      have HGrow2 : Hid ((yS L0 1).d.grow 1000 = (true, (yS 1000 1).d)) := hide (by
        unfold Dk.grow
        rw [if_pos ⟨by show ((0 : Nat) : Int) ≤ 1000; omega, by omega⟩]
        rfl)
      have HSet5 : Hid (∀ li : Array Bool, 5 < li.size → li.getD 37 false = false → li.getD 29 false = false → (li.setIfInBounds 5 true).getD 37 false = false ∧ (li.setIfInBounds 5 true).getD 29 false = false ∧ (li.setIfInBounds 5 true).getD 5 false = true) := fun li h1 h2 h3 => ⟨by rw [getD_set_neM (by decide)]; exact h2, by rw [getD_set_neM (by decide)]; exact h3, getD_set_selfM 5 h1⟩
      have HSet29 : Hid (∀ li : Array Bool, 29 < li.size → li.getD 37 false = false → (li.setIfInBounds 29 true).getD 37 false = false ∧ (li.setIfInBounds 29 true).getD 29 false = true) := fun li h1 h2 => ⟨by rw [getD_set_neM (by decide)]; exact h2, getD_set_selfM 29 h1⟩
      have HSet37 : Hid (∀ li : Array Bool, 37 < li.size → (li.setIfInBounds 37 true).getD 37 false = true) := fun li h1 => getD_set_selfM 37 h1
      have HKeep : Hid (∀ (li : Array Bool) (i : Nat) (w1 w' : World) (F : Nat → Prop), i ≠ 5 → i ≠ 29 → i ≠ 37 → StY w5 y p2 l2 pd2 pl2 pk2 L0 f2 vw2 li w1 F → Kp [] w1 w' → StY w5 y p2 l2 pd2 pl2 pk2 L0 f2 vw2 (li.setIfInBounds i true) w' F) := fun li i _ _ _ h1 h2 h3 ⟨g, e, Z⟩ k => ⟨g, e, by rw [getD_set_neM h1, getD_set_neM h2, getD_set_neM h3]; exact Z.on k⟩
      have HWd : Hid (∀ (w' : World) {li : Array Bool} {a : Act}, GS 137 wY.heap.size (StY w5 y p2 l2 pd2 pl2 pk2 L0 f2 vw2) [(4, 97), (36, 129)] (fun _ => itK 0) [] (fun _ => (0, 0)) li a w' → Wd w' y (.pointer (some ⟨p2, 0, none⟩)) (.pointer (some ⟨l2, 0, none⟩)) (.pointer (some ⟨pd2, 0, none⟩)) (.pointer (some ⟨pl2, 0, none⟩)) (.pointer (some ⟨pk2, 0, none⟩)) 8 8 1000 vw2 (.slice none 0 0) (.slice none 0 0)) := fun w' _ _ h => by
        obtain ⟨_, F, ⟨g, e, Z⟩, -⟩ := h
        have := Z.at_
        split at this
        · exact this
        · split at this
          · exact this
          · split at this <;> exact this
      have HG0 : Hid (∀ (n : Nat) (a : Act), a.tmps.size = 137 → GS 137 wY.heap.size (StY w5 y p2 l2 pd2 pl2 pk2 L0 f2 vw2) [(4, 97), (36, 129)] (fun _ => itK 0) [] (fun _ => (0, 0)) (Array.replicate n false) a wY.drew) := fun n a ha => ⟨ha, _, ⟨gY, rfl, by rw [getD_replicate_false, getD_replicate_false, getD_replicate_false]; exact HZY.out.on (kp_drew wY)⟩, (HZY.out.on (kp_drew wY)).low, Nat.le_refl _, (fun q hq h => by rw [getD_replicate_false] at h; cases h), (fun q hq h => by rw [getD_replicate_false] at h; cases h)⟩
      clear HGr ZY hkW2
      go_wp2_with fail
      refine region_growL (K := KT) (G := GS 137 wY.heap.size (StY w5 y p2 l2 pd2 pl2 pk2 L0 f2 vw2) [(4, 97), (36, 129)] (fun _ => itK 0) [] (fun _ => (0, 0))) Tryz.mixed [Is (.pointer (some ⟨y, 0, none⟩)), Is (.pointer (some ⟨y, 0, none⟩)), Is (.pointer (some ⟨y, 0, none⟩)), Is (.pointer (some ⟨p2, 0, none⟩)), AnyT, Is (ansV 3 0), Is (ansV 3 0), Is (.bool true), Is (.bool true), Is (.pointer (some ⟨y, 0, none⟩)), Is (.pointer (some ⟨y, 0, none⟩)), Is (.pointer (some ⟨y, 0, none⟩)), Is (.pointer (some ⟨p2, 0, none⟩)), Is (.int .i64 0), Is (.bool true), Is (.bool true), Is (.bool true), Is (.pointer (some ⟨y, 0, none⟩)), Is (.pointer (some ⟨y, 0, none⟩)), Is (.pointer (some ⟨y, 0, none⟩)), Is (.pointer (some ⟨p2, 0, none⟩)), Is (.int .i64 0), Is (.bool true), Is (.bool true), Is (.bool true), Is (.pointer (some ⟨y, 0, none⟩)), Is (.pointer (some ⟨y, 0, none⟩)), Is (.pointer (some ⟨y, 2, none⟩)), Is (.pointer (some ⟨pd2, 0, none⟩)), Is (.bool true), Is (.bool true), Is (.bool true), Is (.pointer (some ⟨y, 0, none⟩)), Is (.pointer (some ⟨y, 0, none⟩)), Is (.pointer (some ⟨y, 0, none⟩)), Is (.pointer (some ⟨p2, 0, none⟩)), AnyT, Is (ansV 1 0), Is (ansV 1 0), Is (.bool true), Is (.bool true), Is (.bool true), Is (.bool true), Is (.bool true), Is (.bool true)] [[(11, none)], [(93, some 0)], [(94, some 1)], [(95, some 2)], [], [(96, some 3), (97, some 4)], [], [(98, some 5), (99, some 6)], [(100, some 7)], [(11, none), (101, some 8)], [(102, some 9), (101, some 8)], [(103, some 10), (101, some 8)], [(104, some 11), (101, some 8)], [(105, some 12), (101, some 8)], [(106, some 13), (101, some 8)], [(101, some 8), (107, some 14)], [(108, some 15)], [(11, none), (109, some 16)], [(110, some 17), (109, some 16)], [(111, some 18), (109, some 16)], [(112, some 19), (109, some 16)], [(113, some 20), (109, some 16)], [(114, some 21), (109, some 16)], [(109, some 16), (115, some 22)], [(116, some 23)], [(11, none), (117, some 24)], [(118, some 25), (117, some 24)], [(119, some 26), (117, some 24)], [(120, some 27), (117, some 24)], [(121, some 28), (117, some 24)], [(117, some 24), (122, some 29)], [(123, some 30)], [(11, none), (124, some 31)], [(125, some 32), (124, some 31)], [(126, some 33), (124, some 31)], [(127, some 34), (124, some 31)], [(124, some 31)], [(128, some 35), (129, some 36), (124, some 31)], [(124, some 31)], [(130, some 37), (131, some 38), (124, some 31)], [(124, some 31), (132, some 39)], [(133, some 40)], [(134, some 41)], [(134, some 41), (135, some 42)], [(136, some 43)]] (by kernel_rfl) ?_ ?_ ?_ ?_ ?_
      · intro k R hR hd w'
        have hk : k < 45 := by have := (List.getElem?_eq_some_iff.1 hR).1; simpa using this
        rcases (by omega : k = 0 ∨ k = 1 ∨ k = 2 ∨ k = 3 ∨ k = 4 ∨ k = 5 ∨ k = 6 ∨ k = 7 ∨ k = 8 ∨ k = 9 ∨ k = 10 ∨ k = 11 ∨ k = 12 ∨ k = 13 ∨ k = 14 ∨ k = 15 ∨ k = 16 ∨ k = 17 ∨ k = 18 ∨ k = 19 ∨ k = 20 ∨ k = 21 ∨ k = 22 ∨ k = 23 ∨ k = 24 ∨ k = 25 ∨ k = 26 ∨ k = 27 ∨ k = 28 ∨ k = 29 ∨ k = 30 ∨ k = 31 ∨ k = 32 ∨ k = 33 ∨ k = 34 ∨ k = 35 ∨ k = 36 ∨ k = 37 ∨ k = 38 ∨ k = 39 ∨ k = 40 ∨ k = 41 ∨ k = 42 ∨ k = 43 ∨ k = 44) with rfl | rfl | rfl | rfl | rfl | rfl | rfl | rfl | rfl | rfl | rfl | rfl | rfl | rfl | rfl | rfl | rfl | rfl | rfl | rfl | rfl | rfl | rfl | rfl | rfl | rfl | rfl | rfl | rfl | rfl | rfl | rfl | rfl | rfl | rfl | rfl | rfl | rfl | rfl | rfl | rfl | rfl | rfl | rfl | rfl <;> first | (exfalso; cases hd; done) | (injection hR with hR; subst hR; exact trivial)
      · simp only [List.mem_cons, List.not_mem_nil, or_false]
        intro R hR
        rcases hR with rfl | rfl | rfl | rfl | rfl | rfl | rfl | rfl | rfl | rfl | rfl | rfl | rfl | rfl | rfl | rfl | rfl | rfl | rfl | rfl | rfl | rfl | rfl | rfl | rfl | rfl | rfl | rfl | rfl | rfl | rfl | rfl | rfl | rfl | rfl | rfl | rfl | rfl | rfl | rfl | rfl | rfl | rfl | rfl | rfl <;> first | exact stableG_isM _ | exact stableK_any
      · refine HG0.out _ _ ?_
        rfl
      · refine steps_consL (fun listed a w hnot hdep hcl hsz hg hn => ?_) ?_
        · have h11 : a.eval (.tmp 11) = .pointer (some ⟨y, 0, none⟩) := hn.1
          clear hn
          have hk := hg
          refine wantsS_plain rfl hg (fun w' F s k => HKeep.out _ _ _ _ _ (by decide) (by decide) (by decide) s k) rfl rfl ?_
          refine wants_plain rfl ?_
          exact grown_move (.tmp 11) rfl h11
        refine steps_consL (fun listed a w hnot hdep hcl hsz hg hn => ?_) ?_
        · have h93 : a.eval (.tmp 93) = .pointer (some ⟨y, 0, none⟩) := hn.1
          clear hn
          have hk := hg
          refine wantsS_plain rfl hg (fun w' F s k => HKeep.out _ _ _ _ _ (by decide) (by decide) (by decide) s k) rfl rfl ?_
          refine wants_plain rfl ?_
          refine grown_run (v := .pointer (some ⟨y, 0, none⟩)) ?_ (Kp.refl _ _) rfl
          obtain ⟨ρ, hρ, hc, hf, hg⟩ := eval_is a
          rw [hρ] at h93 ⊢
          simp [go_sem, h93]
        refine steps_consL (fun listed a w hnot hdep hcl hsz hg hn => ?_) ?_
        · have h94 : a.eval (.tmp 94) = .pointer (some ⟨y, 0, none⟩) := hn.1
          clear hn
          have hk := hg
          refine wantsS_plain rfl hg (fun w' F s k => HKeep.out _ _ _ _ _ (by decide) (by decide) (by decide) s k) rfl rfl ?_
          refine wants_plain rfl ?_
          refine grown_run (v := .pointer (some ⟨y, 0, none⟩)) ?_ (Kp.refl _ _) rfl
          obtain ⟨ρ, hρ, hc, hf, hg⟩ := eval_is a
          rw [hρ] at h94 ⊢
          simp [go_sem, h94]
        refine steps_consL (fun listed a w hnot hdep hcl hsz hg hn => ?_) ?_
        · have h95 : a.eval (.tmp 95) = .pointer (some ⟨y, 0, none⟩) := hn.1
          clear hn
          have hk := hg
          refine wantsS_plain rfl hg (fun w' F s k => HKeep.out _ _ _ _ _ (by decide) (by decide) (by decide) s k) rfl rfl ?_
          refine wants_plain rfl ?_
          refine grown_run (v := .pointer (some ⟨p2, 0, none⟩)) ?_ (Kp.refl _ _) rfl
          have hcell : w.cell? ⟨y, 0, none⟩ = some (.pointer (some ⟨p2, 0, none⟩)) := by rw [cell_of_row w y 0 _ _ _ (HWd.out w hk)]; rfl
          obtain ⟨ρ, hρ, hc, hf, hg⟩ := eval_is a
          rw [hρ] at h95 ⊢
          simp [go_sem, h95, hcell]
        refine steps_consL (fun listed a w hnot hdep hcl hsz hg hn => ?_) ?_
        · clear hn
          have hk := hg
          refine wantsG_call rfl (f := 15) rfl Tryz.func15 (by kernel_rfl) (by kernel_rfl) ?_
          simp only [List.map_toArray, List.map_cons, List.map_nil]
          refine (kitem_any 0 0 0 w).mono ?_
          rintro e w' ⟨ao, m, c, rfl, R, K⟩
          exact ⟨_, rfl, ⟨trivial, hg.item (fun F s k => HKeep.out _ _ _ _ _ (by decide) (by decide) (by decide) s k) rfl rfl (by decide) K ⟨ao, m, c, rfl⟩ R⟩, trivial⟩
        refine steps_consL (fun listed a w hnot hdep hcl hsz hg hn => ?_) ?_
        · have h96 : a.eval (.tmp 96) = .pointer (some ⟨p2, 0, none⟩) := hn.1
          have h97 : (AnyT) (a.eval (.tmp 97)) w := hn.2.1
          clear hn
          have hk := hg
          obtain ⟨sz, F, ⟨g', eF, Z'⟩, s2, s3, s4, s5⟩ := id hg
          have hn37 := anc_not hcl 60 37 5 (by kernel_rfl) hnot
          have hn29 := anc_not hcl 60 29 5 (by kernel_rfl) hnot
          have hn5 := hnot
          simp only [hn37, hn29, hn5, Bool.false_eq_true, if_false] at Z'
          obtain ⟨⟨ai, mi, ci, ei⟩, El, Sli⟩ := s4 (4, 97) (by simp) (anc_listed hcl 60 5 4 rfl hdep (by kernel_rfl)) (fun r hr => by cases hr)
          have ei : a.eval (.tmp 97) = .slice ai mi ci := ei
          have El : Els F w (a.eval (.tmp 97)) := El
          have Sli : Sl w (a.eval (.tmp 97)) (itK 0) := Sli
          rw [ei] at El Sli
          have HSb := wz_sub Z' (.slice ai mi ci) (itK 0) Sli (itK_bs 0) (by have := itK_len 0; omega) (fun i hi e => El.no i hi (by rw [eF]; exact .inl e)) 0 (by omega) (by omega) (by simp [yS]) (by simp [yS]) _ _ _ HSub1.out
          refine wantsG_call rfl (f := 24) rfl Tryz.func24 (by kernel_rfl) (by kernel_rfl) ?_
          simp only [List.map_toArray, List.map_cons, List.map_nil, h96, ei]
          refine HSb.mono ?_
          rintro e w' ⟨rfl, g2', Z2, T2⟩
          exact ⟨_, rfl, ⟨trivial, GS.step sz s2 s3 s4 s5 rfl rfl (F' := two2 g2' f2) (by rw [eF]; exact T2) ⟨g2', rfl, by simp only [HSet5.out _ hsz hn37 hn29, if_true, Bool.false_eq_true, if_false]; exact Z2⟩⟩, rfl⟩
        refine steps_consL (fun listed a w hnot hdep hcl hsz hg hn => ?_) ?_
        · clear hn
          have hk := hg
          refine wantsS_plain rfl hg (fun w' F s k => HKeep.out _ _ _ _ _ (by decide) (by decide) (by decide) s k) rfl rfl ?_
          refine wants_plain rfl ?_
          refine grown_run (v := ansV 3 0) ?_ (Kp.refl _ _) rfl
          unfold ansV
          obtain ⟨ρ, hρ, hc, hf, hgg⟩ := eval_is a
          rw [hρ]
          simp [go_sem, hc]
        refine steps_consL (fun listed a w hnot hdep hcl hsz hg hn => ?_) ?_
        · have h98 : a.eval (.tmp 98) = ansV 3 0 := hn.1
          have h99 : a.eval (.tmp 99) = ansV 3 0 := hn.2.1
          clear hn
          have hk := hg
          refine wantsS_plain rfl hg (fun w' F s k => HKeep.out _ _ _ _ _ (by decide) (by decide) (by decide) s k) rfl rfl ?_
          refine wants_plain rfl ?_
          refine grown_run (v := .bool true) ?_ (Kp.refl _ _) rfl
          unfold ansV at h98 h99
          obtain ⟨ρ, hρ, hc, hf, hgg⟩ := eval_is a
          rw [hρ] at h98 h99 ⊢
          simp [go_sem, h98, h99]
        refine steps_consL (fun listed a w hnot hdep hcl hsz hg hn => ?_) ?_
        · have h100 : a.eval (.tmp 100) = .bool true := hn.1
          clear hn
          have hk := hg
          refine wantsS_plain rfl hg (fun w' F s k => HKeep.out _ _ _ _ _ (by decide) (by decide) (by decide) s k) rfl rfl ?_
          refine wants_plain rfl ?_
          exact grown_move (.tmp 100) rfl h100
        refine steps_consL (fun listed a w hnot hdep hcl hsz hg hn => ?_) ?_
        · have h11 : a.eval (.tmp 11) = .pointer (some ⟨y, 0, none⟩) := hn.1
          have h101 : a.eval (.tmp 101) = .bool true := hn.2.1
          clear hn
          have hk := hg
          refine wantsS_plain rfl hg (fun w' F s k => HKeep.out _ _ _ _ _ (by decide) (by decide) (by decide) s k) rfl rfl ?_
          refine wants_guard (d := 101) rfl rfl h101 ?_
          exact grown_move (.tmp 11) rfl h11
        refine steps_consL (fun listed a w hnot hdep hcl hsz hg hn => ?_) ?_
        · have h102 : a.eval (.tmp 102) = .pointer (some ⟨y, 0, none⟩) := hn.1
          have h101 : a.eval (.tmp 101) = .bool true := hn.2.1
          clear hn
          have hk := hg
          refine wantsS_plain rfl hg (fun w' F s k => HKeep.out _ _ _ _ _ (by decide) (by decide) (by decide) s k) rfl rfl ?_
          refine wants_guard (d := 101) rfl rfl h101 ?_
          refine grown_run (v := .pointer (some ⟨y, 0, none⟩)) ?_ (Kp.refl _ _) rfl
          obtain ⟨ρ, hρ, hc, hf, hg⟩ := eval_is a
          rw [hρ] at h102 ⊢
          simp [go_sem, h102]
        refine steps_consL (fun listed a w hnot hdep hcl hsz hg hn => ?_) ?_
        · have h103 : a.eval (.tmp 103) = .pointer (some ⟨y, 0, none⟩) := hn.1
          have h101 : a.eval (.tmp 101) = .bool true := hn.2.1
          clear hn
          have hk := hg
          refine wantsS_plain rfl hg (fun w' F s k => HKeep.out _ _ _ _ _ (by decide) (by decide) (by decide) s k) rfl rfl ?_
          refine wants_guard (d := 101) rfl rfl h101 ?_
          refine grown_run (v := .pointer (some ⟨y, 0, none⟩)) ?_ (Kp.refl _ _) rfl
          obtain ⟨ρ, hρ, hc, hf, hg⟩ := eval_is a
          rw [hρ] at h103 ⊢
          simp [go_sem, h103]
        refine steps_consL (fun listed a w hnot hdep hcl hsz hg hn => ?_) ?_
        · have h104 : a.eval (.tmp 104) = .pointer (some ⟨y, 0, none⟩) := hn.1
          have h101 : a.eval (.tmp 101) = .bool true := hn.2.1
          clear hn
          have hk := hg
          refine wantsS_plain rfl hg (fun w' F s k => HKeep.out _ _ _ _ _ (by decide) (by decide) (by decide) s k) rfl rfl ?_
          refine wants_guard (d := 101) rfl rfl h101 ?_
          refine grown_run (v := .pointer (some ⟨p2, 0, none⟩)) ?_ (Kp.refl _ _) rfl
          have hcell : w.cell? ⟨y, 0, none⟩ = some (.pointer (some ⟨p2, 0, none⟩)) := by rw [cell_of_row w y 0 _ _ _ (HWd.out w hk)]; rfl
          obtain ⟨ρ, hρ, hc, hf, hg⟩ := eval_is a
          rw [hρ] at h104 ⊢
          simp [go_sem, h104, hcell]
        refine steps_consL (fun listed a w hnot hdep hcl hsz hg hn => ?_) ?_
        · have h105 : a.eval (.tmp 105) = .pointer (some ⟨p2, 0, none⟩) := hn.1
          have h101 : a.eval (.tmp 101) = .bool true := hn.2.1
          clear hn
          have hk := hg
          obtain ⟨sz, F, ⟨g', eF, Z'⟩, s2, s3, s4, s5⟩ := id hg
          have hn37 := anc_not hcl 60 37 13 (by kernel_rfl) hnot
          have hn29 := anc_not hcl 60 29 13 (by kernel_rfl) hnot
          have hl5 := anc_listed hcl 60 13 5 rfl hdep (by kernel_rfl)
          simp only [hn37, hn29, hl5, if_true, Bool.false_eq_true, if_false] at Z'
          refine wantsS_plain rfl hg (fun w' F s k => HKeep.out _ _ _ _ _ (by decide) (by decide) (by decide) s k) rfl rfl ?_
          refine wants_guard (d := 101) rfl rfl h101 ?_
          refine grown_call (f := 17) rfl Tryz.func17 (by kernel_rfl) (by kernel_rfl) ?_
          simp only [List.map_toArray, List.map_cons, List.map_nil, h105]
          refine (frcs_any Z'.bo.fr 0 rfl).mono ?_
          rintro e w' ⟨rfl, rfl⟩
          exact ⟨_, rfl, Kp.refl _ _, rfl⟩
        refine steps_consL (fun listed a w hnot hdep hcl hsz hg hn => ?_) ?_
        · have h106 : a.eval (.tmp 106) = .int .i64 0 := hn.1
          have h101 : a.eval (.tmp 101) = .bool true := hn.2.1
          clear hn
          have hk := hg
          refine wantsS_plain rfl hg (fun w' F s k => HKeep.out _ _ _ _ _ (by decide) (by decide) (by decide) s k) rfl rfl ?_
          refine wants_guard (d := 101) rfl rfl h101 ?_
          refine grown_run (v := .bool true) ?_ (Kp.refl _ _) rfl
          obtain ⟨ρ, hρ, hc, hf, hgg⟩ := eval_is a
          rw [hρ] at h106 ⊢
          simp [go_sem, hc, h106]
        refine steps_consL (fun listed a w hnot hdep hcl hsz hg hn => ?_) ?_
        · have h101 : a.eval (.tmp 101) = .bool true := hn.1
          have h107 : a.eval (.tmp 107) = .bool true := hn.2.1
          clear hn
          have hk := hg
          refine wantsS_plain rfl hg (fun w' F s k => HKeep.out _ _ _ _ _ (by decide) (by decide) (by decide) s k) rfl rfl ?_
          refine wants_plain rfl ?_
          exact grown_pick _ _ _ true rfl h101 h107
        refine steps_consL (fun listed a w hnot hdep hcl hsz hg hn => ?_) ?_
        · have h108 : a.eval (.tmp 108) = .bool true := hn.1
          clear hn
          have hk := hg
          refine wantsS_plain rfl hg (fun w' F s k => HKeep.out _ _ _ _ _ (by decide) (by decide) (by decide) s k) rfl rfl ?_
          refine wants_plain rfl ?_
          exact grown_move (.tmp 108) rfl h108
        refine steps_consL (fun listed a w hnot hdep hcl hsz hg hn => ?_) ?_
        · have h11 : a.eval (.tmp 11) = .pointer (some ⟨y, 0, none⟩) := hn.1
          have h109 : a.eval (.tmp 109) = .bool true := hn.2.1
          clear hn
          have hk := hg
          refine wantsS_plain rfl hg (fun w' F s k => HKeep.out _ _ _ _ _ (by decide) (by decide) (by decide) s k) rfl rfl ?_
          refine wants_guard (d := 109) rfl rfl h109 ?_
          exact grown_move (.tmp 11) rfl h11
        refine steps_consL (fun listed a w hnot hdep hcl hsz hg hn => ?_) ?_
        · have h110 : a.eval (.tmp 110) = .pointer (some ⟨y, 0, none⟩) := hn.1
          have h109 : a.eval (.tmp 109) = .bool true := hn.2.1
          clear hn
          have hk := hg
          refine wantsS_plain rfl hg (fun w' F s k => HKeep.out _ _ _ _ _ (by decide) (by decide) (by decide) s k) rfl rfl ?_
          refine wants_guard (d := 109) rfl rfl h109 ?_
          refine grown_run (v := .pointer (some ⟨y, 0, none⟩)) ?_ (Kp.refl _ _) rfl
          obtain ⟨ρ, hρ, hc, hf, hg⟩ := eval_is a
          rw [hρ] at h110 ⊢
          simp [go_sem, h110]
        refine steps_consL (fun listed a w hnot hdep hcl hsz hg hn => ?_) ?_
        · have h111 : a.eval (.tmp 111) = .pointer (some ⟨y, 0, none⟩) := hn.1
          have h109 : a.eval (.tmp 109) = .bool true := hn.2.1
          clear hn
          have hk := hg
          refine wantsS_plain rfl hg (fun w' F s k => HKeep.out _ _ _ _ _ (by decide) (by decide) (by decide) s k) rfl rfl ?_
          refine wants_guard (d := 109) rfl rfl h109 ?_
          refine grown_run (v := .pointer (some ⟨y, 0, none⟩)) ?_ (Kp.refl _ _) rfl
          obtain ⟨ρ, hρ, hc, hf, hg⟩ := eval_is a
          rw [hρ] at h111 ⊢
          simp [go_sem, h111]
        refine steps_consL (fun listed a w hnot hdep hcl hsz hg hn => ?_) ?_
        · have h112 : a.eval (.tmp 112) = .pointer (some ⟨y, 0, none⟩) := hn.1
          have h109 : a.eval (.tmp 109) = .bool true := hn.2.1
          clear hn
          have hk := hg
          refine wantsS_plain rfl hg (fun w' F s k => HKeep.out _ _ _ _ _ (by decide) (by decide) (by decide) s k) rfl rfl ?_
          refine wants_guard (d := 109) rfl rfl h109 ?_
          refine grown_run (v := .pointer (some ⟨p2, 0, none⟩)) ?_ (Kp.refl _ _) rfl
          have hcell : w.cell? ⟨y, 0, none⟩ = some (.pointer (some ⟨p2, 0, none⟩)) := by rw [cell_of_row w y 0 _ _ _ (HWd.out w hk)]; rfl
          obtain ⟨ρ, hρ, hc, hf, hg⟩ := eval_is a
          rw [hρ] at h112 ⊢
          simp [go_sem, h112, hcell]
        refine steps_consL (fun listed a w hnot hdep hcl hsz hg hn => ?_) ?_
        · have h113 : a.eval (.tmp 113) = .pointer (some ⟨p2, 0, none⟩) := hn.1
          have h109 : a.eval (.tmp 109) = .bool true := hn.2.1
          clear hn
          have hk := hg
          obtain ⟨sz, F, ⟨g', eF, Z'⟩, s2, s3, s4, s5⟩ := id hg
          have hn37 := anc_not hcl 60 37 21 (by kernel_rfl) hnot
          have hn29 := anc_not hcl 60 29 21 (by kernel_rfl) hnot
          have hl5 := anc_listed hcl 60 21 5 rfl hdep (by kernel_rfl)
          simp only [hn37, hn29, hl5, if_true, Bool.false_eq_true, if_false] at Z'
          refine wantsS_plain rfl hg (fun w' F s k => HKeep.out _ _ _ _ _ (by decide) (by decide) (by decide) s k) rfl rfl ?_
          refine wants_guard (d := 109) rfl rfl h109 ?_
          refine grown_call (f := 16) rfl Tryz.func16 (by kernel_rfl) (by kernel_rfl) ?_
          simp only [List.map_toArray, List.map_cons, List.map_nil, h113]
          refine (fwaits_any Z'.bo.fr 0 rfl).mono ?_
          rintro e w' ⟨rfl, rfl⟩
          exact ⟨_, rfl, Kp.refl _ _, rfl⟩
        refine steps_consL (fun listed a w hnot hdep hcl hsz hg hn => ?_) ?_
        · have h114 : a.eval (.tmp 114) = .int .i64 0 := hn.1
          have h109 : a.eval (.tmp 109) = .bool true := hn.2.1
          clear hn
          have hk := hg
          refine wantsS_plain rfl hg (fun w' F s k => HKeep.out _ _ _ _ _ (by decide) (by decide) (by decide) s k) rfl rfl ?_
          refine wants_guard (d := 109) rfl rfl h109 ?_
          refine grown_run (v := .bool true) ?_ (Kp.refl _ _) rfl
          obtain ⟨ρ, hρ, hc, hf, hgg⟩ := eval_is a
          rw [hρ] at h114 ⊢
          simp [go_sem, hc, h114]
        refine steps_consL (fun listed a w hnot hdep hcl hsz hg hn => ?_) ?_
        · have h109 : a.eval (.tmp 109) = .bool true := hn.1
          have h115 : a.eval (.tmp 115) = .bool true := hn.2.1
          clear hn
          have hk := hg
          refine wantsS_plain rfl hg (fun w' F s k => HKeep.out _ _ _ _ _ (by decide) (by decide) (by decide) s k) rfl rfl ?_
          refine wants_plain rfl ?_
          exact grown_pick _ _ _ true rfl h109 h115
        refine steps_consL (fun listed a w hnot hdep hcl hsz hg hn => ?_) ?_
        · have h116 : a.eval (.tmp 116) = .bool true := hn.1
          clear hn
          have hk := hg
          refine wantsS_plain rfl hg (fun w' F s k => HKeep.out _ _ _ _ _ (by decide) (by decide) (by decide) s k) rfl rfl ?_
          refine wants_plain rfl ?_
          exact grown_move (.tmp 116) rfl h116
        refine steps_consL (fun listed a w hnot hdep hcl hsz hg hn => ?_) ?_
        · have h11 : a.eval (.tmp 11) = .pointer (some ⟨y, 0, none⟩) := hn.1
          have h117 : a.eval (.tmp 117) = .bool true := hn.2.1
          clear hn
          have hk := hg
          refine wantsS_plain rfl hg (fun w' F s k => HKeep.out _ _ _ _ _ (by decide) (by decide) (by decide) s k) rfl rfl ?_
          refine wants_guard (d := 117) rfl rfl h117 ?_
          exact grown_move (.tmp 11) rfl h11
        refine steps_consL (fun listed a w hnot hdep hcl hsz hg hn => ?_) ?_
        · have h118 : a.eval (.tmp 118) = .pointer (some ⟨y, 0, none⟩) := hn.1
          have h117 : a.eval (.tmp 117) = .bool true := hn.2.1
          clear hn
          have hk := hg
          refine wantsS_plain rfl hg (fun w' F s k => HKeep.out _ _ _ _ _ (by decide) (by decide) (by decide) s k) rfl rfl ?_
          refine wants_guard (d := 117) rfl rfl h117 ?_
          refine grown_run (v := .pointer (some ⟨y, 0, none⟩)) ?_ (Kp.refl _ _) rfl
          obtain ⟨ρ, hρ, hc, hf, hg⟩ := eval_is a
          rw [hρ] at h118 ⊢
          simp [go_sem, h118]
        refine steps_consL (fun listed a w hnot hdep hcl hsz hg hn => ?_) ?_
        · have h119 : a.eval (.tmp 119) = .pointer (some ⟨y, 0, none⟩) := hn.1
          have h117 : a.eval (.tmp 117) = .bool true := hn.2.1
          clear hn
          have hk := hg
          refine wantsS_plain rfl hg (fun w' F s k => HKeep.out _ _ _ _ _ (by decide) (by decide) (by decide) s k) rfl rfl ?_
          refine wants_guard (d := 117) rfl rfl h117 ?_
          refine grown_run (v := .pointer (some ⟨y, 2, none⟩)) ?_ (Kp.refl _ _) rfl
          obtain ⟨ρ, hρ, hc, hf, hg⟩ := eval_is a
          rw [hρ] at h119 ⊢
          simp [go_sem, h119]
        refine steps_consL (fun listed a w hnot hdep hcl hsz hg hn => ?_) ?_
        · have h120 : a.eval (.tmp 120) = .pointer (some ⟨y, 2, none⟩) := hn.1
          have h117 : a.eval (.tmp 117) = .bool true := hn.2.1
          clear hn
          have hk := hg
          refine wantsS_plain rfl hg (fun w' F s k => HKeep.out _ _ _ _ _ (by decide) (by decide) (by decide) s k) rfl rfl ?_
          refine wants_guard (d := 117) rfl rfl h117 ?_
          refine grown_run (v := .pointer (some ⟨pd2, 0, none⟩)) ?_ (Kp.refl _ _) rfl
          have hcell : w.cell? ⟨y, 2, none⟩ = some (.pointer (some ⟨pd2, 0, none⟩)) := by rw [cell_of_row w y 2 _ _ _ (HWd.out w hk)]; rfl
          obtain ⟨ρ, hρ, hc, hf, hg⟩ := eval_is a
          rw [hρ] at h120 ⊢
          simp [go_sem, h120, hcell]
        refine steps_consL (fun listed a w hnot hdep hcl hsz hg hn => ?_) ?_
        · have h121 : a.eval (.tmp 121) = .pointer (some ⟨pd2, 0, none⟩) := hn.1
          have h117 : a.eval (.tmp 117) = .bool true := hn.2.1
          clear hn
          have hk := hg
          obtain ⟨sz, F, ⟨g', eF, Z'⟩, s2, s3, s4, s5⟩ := id hg
          have hn37 := anc_not hcl 60 37 29 (by kernel_rfl) hnot
          have hn29 := hnot
          have hl5 := anc_listed hcl 60 29 5 rfl hdep (by kernel_rfl)
          simp only [hn37, hn29, hl5, if_true, Bool.false_eq_true, if_false] at Z'
          have HGr := wz_grow Z' 1000 true _ HGrow2.out
          refine wantsG_callG (by rw [wanted_iff (g := 24) (b := true) (d := 117) rfl rfl h117]; rfl) (f := 30) rfl Tryz.func30 (by kernel_rfl) (by kernel_rfl) ?_
          simp only [List.map_toArray, List.map_cons, List.map_nil, h121]
          refine HGr.mono ?_
          rintro e w' ⟨rfl, g2', Z2, T2⟩
          exact ⟨_, rfl, ⟨trivial, GS.step sz s2 s3 s4 s5 rfl rfl (F' := two2 g2' f2) (by rw [eF]; exact T2) ⟨g2', rfl, by simp only [HSet29.out _ hsz hn37, if_true, Bool.false_eq_true, if_false]; exact Z2⟩⟩, rfl⟩
        refine steps_consL (fun listed a w hnot hdep hcl hsz hg hn => ?_) ?_
        · have h117 : a.eval (.tmp 117) = .bool true := hn.1
          have h122 : a.eval (.tmp 122) = .bool true := hn.2.1
          clear hn
          have hk := hg
          refine wantsS_plain rfl hg (fun w' F s k => HKeep.out _ _ _ _ _ (by decide) (by decide) (by decide) s k) rfl rfl ?_
          refine wants_plain rfl ?_
          exact grown_pick _ _ _ true rfl h117 h122
        refine steps_consL (fun listed a w hnot hdep hcl hsz hg hn => ?_) ?_
        · have h123 : a.eval (.tmp 123) = .bool true := hn.1
          clear hn
          have hk := hg
          refine wantsS_plain rfl hg (fun w' F s k => HKeep.out _ _ _ _ _ (by decide) (by decide) (by decide) s k) rfl rfl ?_
          refine wants_plain rfl ?_
          exact grown_move (.tmp 123) rfl h123
        refine steps_consL (fun listed a w hnot hdep hcl hsz hg hn => ?_) ?_
        · have h11 : a.eval (.tmp 11) = .pointer (some ⟨y, 0, none⟩) := hn.1
          have h124 : a.eval (.tmp 124) = .bool true := hn.2.1
          clear hn
          have hk := hg
          refine wantsS_plain rfl hg (fun w' F s k => HKeep.out _ _ _ _ _ (by decide) (by decide) (by decide) s k) rfl rfl ?_
          refine wants_guard (d := 124) rfl rfl h124 ?_
          exact grown_move (.tmp 11) rfl h11
        refine steps_consL (fun listed a w hnot hdep hcl hsz hg hn => ?_) ?_
        · have h125 : a.eval (.tmp 125) = .pointer (some ⟨y, 0, none⟩) := hn.1
          have h124 : a.eval (.tmp 124) = .bool true := hn.2.1
          clear hn
          have hk := hg
          refine wantsS_plain rfl hg (fun w' F s k => HKeep.out _ _ _ _ _ (by decide) (by decide) (by decide) s k) rfl rfl ?_
          refine wants_guard (d := 124) rfl rfl h124 ?_
          refine grown_run (v := .pointer (some ⟨y, 0, none⟩)) ?_ (Kp.refl _ _) rfl
          obtain ⟨ρ, hρ, hc, hf, hg⟩ := eval_is a
          rw [hρ] at h125 ⊢
          simp [go_sem, h125]
        refine steps_consL (fun listed a w hnot hdep hcl hsz hg hn => ?_) ?_
        · have h126 : a.eval (.tmp 126) = .pointer (some ⟨y, 0, none⟩) := hn.1
          have h124 : a.eval (.tmp 124) = .bool true := hn.2.1
          clear hn
          have hk := hg
          refine wantsS_plain rfl hg (fun w' F s k => HKeep.out _ _ _ _ _ (by decide) (by decide) (by decide) s k) rfl rfl ?_
          refine wants_guard (d := 124) rfl rfl h124 ?_
          refine grown_run (v := .pointer (some ⟨y, 0, none⟩)) ?_ (Kp.refl _ _) rfl
          obtain ⟨ρ, hρ, hc, hf, hg⟩ := eval_is a
          rw [hρ] at h126 ⊢
          simp [go_sem, h126]
        refine steps_consL (fun listed a w hnot hdep hcl hsz hg hn => ?_) ?_
        · have h127 : a.eval (.tmp 127) = .pointer (some ⟨y, 0, none⟩) := hn.1
          have h124 : a.eval (.tmp 124) = .bool true := hn.2.1
          clear hn
          have hk := hg
          refine wantsS_plain rfl hg (fun w' F s k => HKeep.out _ _ _ _ _ (by decide) (by decide) (by decide) s k) rfl rfl ?_
          refine wants_guard (d := 124) rfl rfl h124 ?_
          refine grown_run (v := .pointer (some ⟨p2, 0, none⟩)) ?_ (Kp.refl _ _) rfl
          have hcell : w.cell? ⟨y, 0, none⟩ = some (.pointer (some ⟨p2, 0, none⟩)) := by rw [cell_of_row w y 0 _ _ _ (HWd.out w hk)]; rfl
          obtain ⟨ρ, hρ, hc, hf, hg⟩ := eval_is a
          rw [hρ] at h127 ⊢
          simp [go_sem, h127, hcell]
        refine steps_consL (fun listed a w hnot hdep hcl hsz hg hn => ?_) ?_
        · have h124 : a.eval (.tmp 124) = .bool true := hn.1
          clear hn
          have hk := hg
          refine wantsG_callG (by rw [wanted_iff (g := 31) (b := true) (d := 124) rfl rfl h124]; rfl) (f := 15) rfl Tryz.func15 (by kernel_rfl) (by kernel_rfl) ?_
          simp only [List.map_toArray, List.map_cons, List.map_nil]
          refine (kitem_any 0 0 0 w).mono ?_
          rintro e w' ⟨ao, m, c, rfl, R, K⟩
          exact ⟨_, rfl, ⟨trivial, hg.item (fun F s k => HKeep.out _ _ _ _ _ (by decide) (by decide) (by decide) s k) rfl rfl (by decide) K ⟨ao, m, c, rfl⟩ R⟩, trivial⟩
        refine steps_consL (fun listed a w hnot hdep hcl hsz hg hn => ?_) ?_
        · have h128 : a.eval (.tmp 128) = .pointer (some ⟨p2, 0, none⟩) := hn.1
          have h129 : (AnyT) (a.eval (.tmp 129)) w := hn.2.1
          have h124 : a.eval (.tmp 124) = .bool true := hn.2.2.1
          clear hn
          have hk := hg
          obtain ⟨sz, F, ⟨g', eF, Z'⟩, s2, s3, s4, s5⟩ := id hg
          have hn37 := hnot
          have hl5 := anc_listed hcl 60 37 5 rfl hdep (by kernel_rfl)
          have hl29 := anc_listed hcl 60 37 29 rfl hdep (by kernel_rfl)
          simp only [hn37, hl5, hl29, if_true, Bool.false_eq_true, if_false] at Z'
          obtain ⟨⟨ai, mi, ci, ei⟩, El, Sli⟩ := s4 (36, 129) (by simp) (anc_listed hcl 60 37 36 rfl hdep (by kernel_rfl)) (fun r hr => by cases hr)
          have ei : a.eval (.tmp 129) = .slice ai mi ci := ei
          have El : Els F w (a.eval (.tmp 129)) := El
          have Sli : Sl w (a.eval (.tmp 129)) (itK 0) := Sli
          rw [ei] at El Sli
          have HSb := wz_sub Z' (.slice ai mi ci) (itK 0) Sli (itK_bs 0) (by have := itK_len 0; omega) (fun i hi e => El.no i hi (by rw [eF]; exact .inl e)) 0 (by omega) (by omega) (by simp [yS]) (by simp [yS]) _ _ _ HSub3.out
          refine wantsG_callG (by rw [wanted_iff (g := 31) (b := true) (d := 124) rfl rfl h124]; rfl) (f := 24) rfl Tryz.func24 (by kernel_rfl) (by kernel_rfl) ?_
          simp only [List.map_toArray, List.map_cons, List.map_nil, h128, ei]
          refine HSb.mono ?_
          rintro e w' ⟨rfl, g2', Z2, T2⟩
          exact ⟨_, rfl, ⟨trivial, GS.step sz s2 s3 s4 s5 rfl rfl (F' := two2 g2' f2) (by rw [eF]; exact T2) ⟨g2', rfl, by simp only [HSet37.out _ hsz, if_true]; exact Z2⟩⟩, rfl⟩
        refine steps_consL (fun listed a w hnot hdep hcl hsz hg hn => ?_) ?_
        · have h124 : a.eval (.tmp 124) = .bool true := hn.1
          clear hn
          have hk := hg
          refine wantsS_plain rfl hg (fun w' F s k => HKeep.out _ _ _ _ _ (by decide) (by decide) (by decide) s k) rfl rfl ?_
          refine wants_guard (d := 124) rfl rfl h124 ?_
          refine grown_run (v := ansV 1 0) ?_ (Kp.refl _ _) rfl
          unfold ansV
          obtain ⟨ρ, hρ, hc, hf, hgg⟩ := eval_is a
          rw [hρ]
          simp [go_sem, hc]
        refine steps_consL (fun listed a w hnot hdep hcl hsz hg hn => ?_) ?_
        · have h130 : a.eval (.tmp 130) = ansV 1 0 := hn.1
          have h131 : a.eval (.tmp 131) = ansV 1 0 := hn.2.1
          have h124 : a.eval (.tmp 124) = .bool true := hn.2.2.1
          clear hn
          have hk := hg
          refine wantsS_plain rfl hg (fun w' F s k => HKeep.out _ _ _ _ _ (by decide) (by decide) (by decide) s k) rfl rfl ?_
          refine wants_guard (d := 124) rfl rfl h124 ?_
          refine grown_run (v := .bool true) ?_ (Kp.refl _ _) rfl
          unfold ansV at h130 h131
          obtain ⟨ρ, hρ, hc, hf, hgg⟩ := eval_is a
          rw [hρ] at h130 h131 ⊢
          simp [go_sem, h130, h131]
        refine steps_consL (fun listed a w hnot hdep hcl hsz hg hn => ?_) ?_
        · have h124 : a.eval (.tmp 124) = .bool true := hn.1
          have h132 : a.eval (.tmp 132) = .bool true := hn.2.1
          clear hn
          have hk := hg
          refine wantsS_plain rfl hg (fun w' F s k => HKeep.out _ _ _ _ _ (by decide) (by decide) (by decide) s k) rfl rfl ?_
          refine wants_plain rfl ?_
          exact grown_pick _ _ _ true rfl h124 h132
        refine steps_consL (fun listed a w hnot hdep hcl hsz hg hn => ?_) ?_
        · have h133 : a.eval (.tmp 133) = .bool true := hn.1
          clear hn
          have hk := hg
          refine wantsS_plain rfl hg (fun w' F s k => HKeep.out _ _ _ _ _ (by decide) (by decide) (by decide) s k) rfl rfl ?_
          refine wants_plain rfl ?_
          exact grown_move (.tmp 133) rfl h133
        refine steps_consL (fun listed a w hnot hdep hcl hsz hg hn => ?_) ?_
        · have h134 : a.eval (.tmp 134) = .bool true := hn.1
          clear hn
          have hk := hg
          refine wantsS_plain rfl hg (fun w' F s k => HKeep.out _ _ _ _ _ (by decide) (by decide) (by decide) s k) rfl rfl ?_
          refine wants_guard (d := 134) rfl rfl h134 ?_
          refine grown_call (f := 19) rfl Tryz.func19 (by kernel_rfl) (by kernel_rfl) ?_
          simp only [List.map_toArray, List.map_nil]
          refine (fknown_any w).mono ?_
          rintro e w' ⟨rfl, K⟩
          exact ⟨_, rfl, K, rfl⟩
        refine steps_consL (fun listed a w hnot hdep hcl hsz hg hn => ?_) ?_
        · have h134 : a.eval (.tmp 134) = .bool true := hn.1
          have h135 : a.eval (.tmp 135) = .bool true := hn.2.1
          clear hn
          have hk := hg
          refine wantsS_plain rfl hg (fun w' F s k => HKeep.out _ _ _ _ _ (by decide) (by decide) (by decide) s k) rfl rfl ?_
          refine wants_plain rfl ?_
          exact grown_pick _ _ _ true rfl h134 h135
        refine steps_consL (fun listed a w hnot hdep hcl hsz hg hn => ?_) ?_
        · have h136 : a.eval (.tmp 136) = .bool true := hn.1
          clear hn
          have hk := hg
          refine wantsS_plain rfl hg (fun w' F s k => HKeep.out _ _ _ _ _ (by decide) (by decide) (by decide) s k) rfl rfl ?_
          refine wants_plain rfl ?_
          exact grown_assign (.tmp 136) rfl h136
        exact trivial
      intro W3
      rintro _ rfl
      rintro _ rfl
      rintro _ rfl
      rintro _ rfl
      intro v97 h97
      rintro _ rfl
      rintro _ rfl
      rintro _ rfl
      rintro _ rfl
      rintro _ rfl
      rintro _ rfl
      rintro _ rfl
      rintro _ rfl
      rintro _ rfl
      rintro _ rfl
      rintro _ rfl
      rintro _ rfl
      rintro _ rfl
      rintro _ rfl
      rintro _ rfl
      rintro _ rfl
      rintro _ rfl
      rintro _ rfl
      rintro _ rfl
      rintro _ rfl
      rintro _ rfl
      rintro _ rfl
      rintro _ rfl
      rintro _ rfl
      rintro _ rfl
      rintro _ rfl
      rintro _ rfl
      rintro _ rfl
      rintro _ rfl
      rintro _ rfl
      rintro _ rfl
      intro v129 h129
      rintro _ rfl
      rintro _ rfl
      rintro _ rfl
      rintro _ rfl
      rintro _ rfl
      rintro _ rfl
      rintro _ rfl
      rintro _ rfl
      refine fin_nil ?_
      intro listed hall hg
      simp only [Act.put, List.set_cons_zero, List.set_cons_succ, List.setIfInBounds_toArray] at hg ⊢
      obtain ⟨-, F, ⟨gz, eF, Zz⟩, -, -, -, -⟩ := hg
      have HKz := hide (HK5.out.trans Zz.bo.kp)
      clear Zz hall
      go_wp2_with fail
      go_ret
      exact ⟨rfl, HKz.out.below (Nat.le_refl _) (by simp)⟩
set_option maxRecDepth 100000 in
theorem lifted (os : Os) (started : os.Started) (H : Type) (enc : TypeId × Value → H) :
    ReturnsInHanded {} Tryz.checked os 7 .any (Rows.frontBusySpec.pre6 enc Tryz.prog Tryz.f7 Rows.frontBusyRow.domain false) (Rows.frontBusySpec.post enc Tryz.prog Tryz.f7 false true false false) := by
  refine returnsInHanded_of_change (C := Tryz.checked) own started (by kernel_rfl) Tryz.func7
    (ChangeSpec.witness6 (enc := enc) (C := Tryz.checked) false ⟨#[], #[.int .i64 0, .int .i64 0], []⟩ 8 (by kernel_rfl) (by kernel_rfl) (by kernel_rfl) (by kernel_rfl)) ?_
  intro W base args ds gs before hval0 hW hcnd _
  have hval : ∀ (j : Nat) t v, Tryz.f7.params[j]? = some t → args[j]? = some v → Value.okWide Tryz.prog W .any base t v := hval0
  have hW' := hW
  obtain ⟨p, q, hA0, hV, rfl, hfz, hnd⟩ := hW
  have hA : DataW.TrodAll enc Tryz.prog W 0 (fun _ => true) true Tryz.f7.params.toList args.toList ds p := hA0
  rw [Tryz.params7] at hA hval
  obtain ⟨v0, vs0, d0, ds0, p0, q0, hargs, rfl, rfl, h0, r0⟩ := trodAll_cons hA
  obtain ⟨v1, vs1, d1, ds1, p1, q1, rfl, rfl, rfl, h1, r1⟩ := trodAll_cons r0
  obtain ⟨rfl, rfl, rfl⟩ := trodAll_nil r1
  obtain rfl : args = #[v0, v1] := by cases args; simp_all
  obtain ⟨rfl, rfl⟩ := trodVars_none hV
  obtain ⟨a0, rfl, rfl, rfl, w0⟩ := open_int Tryz.underlying3 (hval 0 3 v0 rfl rfl) h0
  obtain ⟨a1, rfl, rfl, rfl, w1⟩ := open_int Tryz.underlying3 (hval 1 3 v1 rfl rfl) h1
  clear hA0 hval0
  refine (walk a0 a1 W (bounds_i64 w0) (bounds_i64 w1)).mono fun e W' ⟨he, bel⟩ => ?_
  subst he
  exact ⟨_, rfl, _, _, _, [], _, [], hW', trodAll_mk1 (shut_bool Tryz.underlying4 _), (trodAll_cons_mk (shut_int Tryz.underlying3 w0) (trodAll_cons_mk (shut_int Tryz.underlying3 w1) trodAll_mk0)), rfl, bel.frame _, fun h => by cases h⟩
theorem over : Rows.frontBusyRow.holds Tryz.pinned (OpenSpec.ofChange Rows.frontBusySpec) :=
  OpenClaim.holds_of_wide 7 Tryz.f7 rfl rfl rfl rfl rfl rfl rfl ⟨rfl, rfl, rfl, rfl, rfl⟩ rfl rfl rfl rfl rfl (by kernel_rfl) Tryz.func7 (by kernel_rfl)
    (of_decide_eq_true (by kernel_rfl)) (by unfold Func.isWrapper; first | (rw [if_pos (by decide +kernel)]; kernel_rfl) | (rw [if_neg (by decide +kernel)]; exact ⟨rfl, rfl⟩))
    (fun os started H enc _ => lifted os started H enc)
end Go.Proofs.YteabdojjllfcpaaGreat.frontBusy
namespace Go.Proofs.YteabdojjllfcpaaGreat
/-- The given statement. -/
theorem FrontBusy_holds : Rows.FrontBusySaid := frontBusy.over
#print axioms FrontBusy_holds
end Go.Proofs.YteabdojjllfcpaaGreat
