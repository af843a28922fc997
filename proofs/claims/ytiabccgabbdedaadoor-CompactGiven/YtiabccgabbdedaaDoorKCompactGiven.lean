/-
  The statement CompactGivenCardSaid: for every n the law function CompactGiven returns true; the tables hash.roundWords, math/bits' deBruijn32tab and deBruijn64tab start as the program's text lays them (tied). No other condition.
-/
import Derived.Test.YtiabccgabbdedaaDoorKCFree
import Derived.Test.YtiabccgabbdedaaDoorTie
import Derived.Test.YtiabccgabbdedaaDoorCards
import Derived.SevenTiedAt
namespace Go.Proofs.YtiabccgabbdedaaDoor.compactGiven
open Go.ChangeShapes Go.WideShapes Go.ChangeAt Go.RowKit
open Go.Proofs.YtiabccgabbdedaaDoor
set_option linter.unusedVariables false

theorem wrap_u8 (x : Int) : 0 ≤ IntKind.u8.wrap (x + 1) ∧ IntKind.u8.wrap (x + 1) ≤ 255 := by
  simp [IntKind.wrap, IntKind.signed, IntKind.bits]; omega

set_option maxRecDepth 100000 in
set_option maxHeartbeats 4000000 in
theorem walk (n : Int) (w : World) (hG : Gl w) (hn : -9223372036854775808 ≤ n ∧ n ≤ 9223372036854775807) :
    Calls Tryd.prog 7 #[.int .i64 n] w fun e w' => e = .returned (.bool true) ∧ Below w.heap.size w w' := by
  have HG := hide hG
  have hgn := hG.pos
  have HCW := hide (within_any n 1 60 w (by omega) (by omega) (by omega) hn)
  clear hG hn
  go_enter Tryd.func7, Tryd.ntmps7
  go_wp2_with fail
  refine (unhide HCW).mono ?_
  rintro ee w5 ⟨xi, rfl, hx0, hx1, hw⟩
  subst w5
  obtain ⟨M, rfl⟩ := Int.eq_ofNat_of_zero_le (by omega : 0 ≤ xi)
  have hMN : M ≤ 60 := by omega
  clear HCW hx0 hx1
  go_wp2_with (first
    | (go_at_call 9; refine (gr_new w hgn).mono ?_; rintro e w1 ⟨p, rfl, G1, K1, P1, P2⟩; have HG1 := hide G1; have HK1 := hide K1; clear G1 K1)
    | (go_at_call 10; refine (kleaves_any M w1 (by omega)).mono ?_; rintro e w2 ⟨al, ml, cl, rfl, A2⟩))
  obtain rfl : M = ml := (A2.cap.trans (kleavesP_len M)).symm
  have HG2 := hide (unhide HG1 w2 A2.kp)
  have HGL : Hid (Gl w2) := (unhide HG).kept ((unhide HK1).trans A2.kp) (by simp)
  have HK2 := hide ((unhide HK1).trans A2.kp)
  have HA := hide A2
  have HW2 : Hid (∀ W, Kp [p] w2 W → Kp [] w W) := fun W k => (unhide HK2).then k (fun i hi => .inr (by simp at hi; omega))
  clear A2 HG1 HK1
  go_loopw [5] (fun i wr => ∃ k : Nat, k ≤ M ∧ i = .int .i64 k ∧ Gr w2 ((kleavesP M).take k) p wr) (fun i _ => M - (intOf i).toNat)
  case atStart => exact ⟨0, by omega, rfl, by simpa using unhide HG2⟩
  case round =>
    clear HG2
    obtain ⟨k, hk, rfl, hGr⟩ := hrel
    by_cases hlt : k < M
    · have hlt2 : (k : Int) < (M : Int) := by omega
      have hlen := kleavesP_len M
      have hLr := (unhide HA).keptP P2 hGr.kp (by omega)
      have htk : ∀ x ∈ (kleavesP M).take k, x.length ≤ 1000 := fun x hx => kleavesP_le M x (List.mem_of_mem_take hx)
      have hkl : k < (kleavesP M).length := by rw [hlen]; exact hlt
      have hx := List.getElem?_eq_getElem hkl
      have HT := hide (List.take_succ_eq_append_getElem hkl)
      have hx32 := kleavesP_all M _ (List.getElem_mem hkl)
      obtain ⟨x, hxx⟩ : ∃ x, x = (kleavesP M)[k] := ⟨_, rfl⟩
      rw [← hxx] at hx hx32 HT
      obtain ⟨-, b, off, u, rfl, hc, hS, hB⟩ := hLr.at k x hx
      have ob := (Kp.refl [] wr).alloc (.cells #[] 5)
      have hcw := ob.cell hc (by simp)
      have HSw := hide (hS.kept ob (by simp))
      have hR0 : Hid (Row (wr.alloc (.cells #[] 5)) wr.heap.size (.slice (some ⟨wr.heap.size, 0, none⟩) 0 0) []) := row_of_block (bs := []) (Nat.le_refl _) (heap_alloc_new wr _) rfl (by simp [maxLen])
      have HOB := hide ob
      obtain ⟨ax, cx, hux, -⟩ := hS
      obtain ⟨nx, hnx⟩ : ∃ nx, nx = x.length := ⟨_, rfl⟩
      rw [← hnx] at hux
      subst hux
      have HGr := hide hGr
      have HB := hide hB
      have HTK := hide htk
      have HX32 := hide hx32
      have HTL : Hid (((kleavesP M).take k).length + 1 ≤ 1000) := hide (by rw [List.length_take]; omega)
      have HXL : Hid (([] : List Int).length + x.length ≤ 140737488355328) := hide (by simp; omega)
      clear hGr hLr hkl hxx htk hlen hx hB hnx hx32 ob hc
      go_wp2_with (at_builtin; refine wpList_append_row rfl (.tmp 24) (.tmp 28) rfl wr.heap.size _ _ rfl (unhide hR0) _ x rfl (unhide HSw) (unhide HXL) (by simp) ?_; intro a4 m4 c4 w4 r4 s4; refine Hid.out ?_)
      have K4 := (unhide hR0).step (unhide HOB) s4
      rw [List.nil_append] at r4
      obtain rfl : m4 = 32 := by rw [r4.len]; exact unhide HX32
      obtain ⟨g, rfl, hg1, hg2, hgc, hgf, -⟩ := r4.spot (by omega)
      have hgw2 : w2.heap.size ≤ g := Nat.le_trans (unhide HGr).kp.size hg1
      have HC5 := hide (grf_append w2 ((kleavesP M).take k) p g _ x w4 ((unhide HGr).free K4 hg1) hg2 r4.sl (unhide HB) (by have := unhide HX32; omega) (unhide HTL) (unhide HTK) (unhide HGL))
      rw [← unhide HT] at HC5
      have h5l : 5 < x.length := by have := unhide HX32; omega
      have HR4 := hide r4
      clear r4 s4 K4 hgc hgf hcw HSw hR0 HOB HGr HTK HTL HXL hg1
      refine hide ?_
      go_wp2_with fail
      refine (unhide HC5).mono ?_
      rintro e w6 ⟨rfl, G6, S, hS, K6⟩
      have r6 : Row w6 wr.heap.size (.slice (some ⟨g, 0, none⟩) 32 c4) x := (unhide HR4).kept K6 (fun i hi hm => hS (by cases hi; exact hm))
      obtain ⟨g', e', -, -, hgc, hgf, -⟩ := r6.spot (by omega)
      cases e'
      have hc5 := hgc 5 h5l
      have hf5 := hgf 5
      have HF : Hid (∀ y, Gr w2 ((kleavesP M).take (k + 1)) p (w6.setCell ⟨g, 5, none⟩ y)) := fun y => G6.poke ((Kp.refl [g] w6).setCell (p := ⟨g, 5, none⟩) (.inl (by simp)) _) hgw2
      obtain ⟨x5, hx5⟩ : ∃ x5, x5 = x[5] := ⟨_, rfl⟩
      rw [← hx5] at hc5
      clear HC5 G6 hS K6 r6 hgc hgf HR4 hx5
      go_wp2_with fail
      go_roundw
      case rel => exact ⟨k + 1, by omega, by go_num, unhide HF _⟩
      case measure => simp [intOf]; omega
    · obtain rfl : M = k := by omega
      rw [List.take_of_length_le (by rw [kleavesP_len]; exact Nat.le_refl _)] at hGr
      have HGr := hide hGr
      have hml : (kleavesP M).length ≤ 1000 := by rw [kleavesP_len]; omega
      have HML := hide hml
      have HC := hide (gr_nodes w2 (kleavesP M) p wr hGr hml (kleavesP_le M))
      obtain ⟨wo, hwo⟩ : ∃ wo, wo = wr := ⟨_, rfl⟩
      subst hwo
      clear hGr hk hlt hml
      go_wp2_with fail
      refine (unhide HC).mono ?_
      rintro e w7 ⟨an, mn, cn, rfl, A7⟩
      have h7 : ∃ vs, Any7 wo vs (.slice an mn cn) w7 ∧ mn = vs.length ∧ vs.length ≤ 1000 := by
        obtain ⟨l, p1, p2, p3⟩ := A7
        have e1 := p1.1.len
        refine ⟨l.map (·.1), ⟨l, p1, rfl, p3⟩, by rw [e1], ?_⟩
        rw [List.length_map, map_len p2]
        exact Nat.le_trans (cnd_small _ (unhide HML)) (by omega)
      obtain ⟨vs, h7, hmn, hvl⟩ := h7
      have H7 := hide h7
      have HMN := hide hmn
      have hmn2 : mn ≤ 1000 := by omega
      clear HC A7 h7 hmn
      go_wp2_with fail
      go_loopw [8] (fun i W => ∃ k : Nat, k ≤ mn ∧ i = .int .i64 k ∧ Any7 wo vs (.slice an mn cn) W) (fun i _ => mn - (intOf i).toNat)
      case atStart => exact ⟨0, by omega, rfl, unhide H7⟩
      case round =>
        clear H7
        obtain ⟨i, hi, rfl, hA⟩ := hrel
        by_cases hilt : i < mn
        · have hilt2 : (i : Int) < (mn : Int) := by omega
          obtain ⟨g, ay, ny, cy, eg, evs, -⟩ := (hA.at i (by have := unhide HMN; omega)).2
          subst eg
          have HAT : Hid (∀ W, Any7 wo vs (.slice (some ⟨g, 0, none⟩) mn cn) W → W.cell? ⟨g, i, none⟩ = some (.slice ay ny cy) ∧ ∀ k, k < ny → ∃ gy x, ay = some ⟨gy, 0, none⟩ ∧ wo.heap.size ≤ gy ∧ gy ≠ g ∧ 0 ≤ x ∧ x ≤ 255 ∧ W.cell? ⟨gy, k, none⟩ = some (.int .u8 x) ∧ W.frozen? ⟨gy, k, none⟩ = false) := by
            intro W hW
            obtain ⟨g2, ay2, ny2, cy2, e1, e2, e3, e4⟩ := (hW.at i (by have := unhide HMN; omega)).2
            cases e1
            rw [evs] at e2
            cases e2
            refine ⟨e3, fun k hk => ?_⟩
            obtain ⟨gy, x, q1, q2, _, q3, q4, q5, q6, q7⟩ := e4 k hk
            exact ⟨gy, x, q1, q2, q3, q4, q5, q6, q7⟩
          have hnyb : ny ≤ 9223372036854775807 := by
            have hcell := (unhide HAT _ hA).1
            obtain ⟨l, p1, p2, _⟩ := hA
            have hil : i < l.length := by have : l.length = vs.length := by rw [← p2]; simp
                                          have := unhide HMN
                                          omega
            have e1 : vs[i]'(by have := unhide HMN; omega) = (l[i]).1 := by simp [← p2]
            obtain ⟨r1, _, _⟩ := p1.2 (l[i]) (List.getElem_mem hil)
            rw [← e1, evs] at r1
            obtain ⟨ao', c', e', h1', h2', _⟩ := r1.sl
            injection e' with _ e5 e6
            unfold maxLen at h2'
            omega
          have HA0 := hide hA
          clear hA evs
          obtain ⟨wp, hwp⟩ : ∃ wp, wp = wr := ⟨_, rfl⟩
          subst hwp
          go_wp2_with fail
          go_loopw [9] (fun j W => ∃ k : Nat, k ≤ ny ∧ j = .int .i64 k ∧ Any7 wo vs (.slice (some ⟨g, 0, none⟩) mn cn) W) (fun j _ => ny - (intOf j).toNat)
          case atStart => exact ⟨0, by omega, rfl, unhide HA0⟩
          case round =>
            clear HA0
            obtain ⟨k, hk, rfl, hA⟩ := hrel
            have hc := (unhide HAT wr hA).1
            by_cases hklt : k < ny
            · have hklt2 : (k : Int) < (ny : Int) := by omega
              obtain ⟨gy, x, rfl, q2, q3, q4, q5, q6, q7⟩ := (unhide HAT wr hA).2 k hklt
              have HF : Hid (Any7 wo vs (.slice (some ⟨g, 0, none⟩) mn cn) (wr.setCell ⟨gy, k, none⟩ (.int .u8 (IntKind.u8.wrap (x + 1))))) := hA.poke q2 (fun e => q3 (by cases e; rfl)) _ (wrap_u8 x).1 (wrap_u8 x).2
              clear hA q2 q3 q4 q5
              go_wp2_with fail
              go_roundw
              case rel => exact ⟨k + 1, by omega, by go_num, unhide HF⟩
              case measure => simp [intOf]; omega
            · obtain rfl : ny = k := by omega
              have HF := hide hA
              clear hA
              go_wp2_with fail
              go_roundw
              case rel => exact ⟨i + 1, by omega, by go_num, unhide HF⟩
              case measure => simp [intOf]; omega
        · obtain rfl : mn = i := by omega
          have KA : Kp [] wo wr := by obtain ⟨_, _, _, h⟩ := hA; exact h
          have G8 := (unhide HGr).mid KA
          have HG8 := hide G8
          clear hA KA hilt hi
          obtain ⟨ao, m, c, lr, R8, e8, K8⟩ := G8
          have hl8 : lr.length ≤ 90000 := by rw [map_len e8]; exact Nat.le_trans (cnd_small _ (unhide HML)) (by omega)
          have hm8 := map_le e8 (cnd_le _ (kleavesP_le M))
          have HE := hide (each_any p _ _ _ lr wr R8 hl8 hm8 23 #[] #[] (enters_of Tryd.func23 (by kernel_rfl) rfl) (fun _ W => Kp [] wr W) (Kp.refl _ _) (fun i W k => R8.keptN k) (fun i hi W W1 a m c hI k hr => by
            refine (bump_any (.slice a m c) (lr[i]).2 W.heap.size W1 hr (R8.parts.2 _ (List.getElem_mem hi)).2.1 (hm8 _ (List.getElem_mem hi))).mono ?_
            rintro e W2 ⟨rfl, K⟩
            exact ⟨_, rfl, hI.trans (k.then K (fun j hj => .inr (Row.own hr j (by simpa [Option.mem_toList] using hj))))⟩))
          clear R8 e8 K8 hl8 hm8
          go_wp2_with fail
          refine (unhide HE).mono ?_
          rintro e w9 ⟨rfl, K9⟩
          have G9 := (unhide HG8).mid K9
          obtain ⟨r, hr⟩ : ∃ r, r = trootP (kleavesP M) := ⟨_, rfl⟩
          have HRT := hide (gr_root w2 (kleavesP M) p r hr w9 G9 (unhide HML) (kleavesP_le M) (unhide HGL))
          have HRB : Hid (Bs r ∧ r.length = 32) := by rw [hr]; exact ⟨trootP_bs _ (fun x hx => by obtain ⟨i, _, rfl⟩ := List.mem_map.1 hx; exact kleafP_bs i), trootP_len _ (kleavesP_all M)⟩
          have HG9 := hide G9
          clear HE K9 G9 HG8 hr
          go_wp2_with fail
          refine (unhide HRT).mono ?_
          rintro e w10 ⟨a10, m10, c10, rfl, R10, K10⟩
          obtain rfl : m10 = 32 := by rw [R10.len]; exact (unhide HRB).2
          have H10 : Hid (∃ bs, bs.length = 32 ∧ Bs bs ∧ Row w10 w9.heap.size (.slice a10 32 c10) bs ∧ Kp [] w9 w10) := ⟨r, (unhide HRB).2, (unhide HRB).1, R10, K10⟩
          clear HRT R10 K10 HRB
          go_wp2_with fail
          go_loopw [11] (fun i W => ∃ (k : Nat) (bs : List Int), k ≤ 32 ∧ i = .int .i64 k ∧ bs.length = 32 ∧ Bs bs ∧ Row W w9.heap.size (.slice a10 32 c10) bs ∧ Kp [] w9 W) (fun i _ => 32 - (intOf i).toNat)
          case atStart =>
            obtain ⟨bs, q1, q2, q3, q4⟩ := unhide H10
            exact ⟨0, bs, by omega, rfl, q1, q2, q3, q4⟩
          case round =>
            clear H10
            obtain ⟨k, bs, hk, rfl, q1, q2, q3, q4⟩ := hrel
            obtain ⟨wq, hwq⟩ : ∃ wq, wq = wr := ⟨_, rfl⟩
            subst hwq
            by_cases hklt : k < 32
            · have hklt2 : (k : Int) < 32 := by omega
              obtain ⟨gx, rfl, hb, -, hcell, hfr, hset⟩ := q3.spot (by omega)
              have hkl : k < bs.length := by omega
              have hc := hcell k hkl
              have hf := hfr k
              obtain ⟨x, hxx⟩ : ∃ x, x = bs[k] := ⟨_, rfl⟩
              rw [← hxx] at hc
              have HR := hide (hset k (IntKind.u8.wrap (x + 1)))
              have HB2 := hide (q2.set k _ (wrap_u8 x).1 (wrap_u8 x).2)
              have HK : Hid (Kp [] w9 (wq.setCell ⟨gx, k, none⟩ (.int .u8 (IntKind.u8.wrap (x + 1))))) := q4.setCell (p := ⟨gx, k, none⟩) (.inr hb) _
              have HL : Hid ((bs.set k (IntKind.u8.wrap (x + 1))).length = 32) := hide (by rw [List.length_set]; exact q1)
              clear hcell hfr hset q1 q2 q3 q4 hkl hxx
              go_wp2_with fail
              go_roundw
              case rel => exact ⟨k + 1, _, by omega, by go_num, unhide HL, unhide HB2, unhide HR, unhide HK⟩
              case measure => simp [intOf]; omega
            · obtain rfl : k = 32 := by omega
              have G11 := (unhide HG9).mid q4
              have hLr := (unhide HA).keptP P2 G11.kp (unhide HML)
              have HSM := hide (gr_same w2 (kleavesP M) p _ wq G11 hLr (unhide HML) (kleavesP_le M) (unhide HGL))
              have HG11 := hide (G11.gl (unhide HGL))
              have HK11 := hide (unhide HW2 wq G11.kp)
              clear q1 q2 q3 q4 G11 hLr
              go_wp2_with (first
                | (go_at_call 11; refine (unhide HSM).mono ?_; rintro e w12 ⟨rfl, K12⟩; have HK12 := hide K12; clear K12)
                | (go_at_call 14; refine (known_any w12 ((unhide HG11).kept (unhide HK12) (by simp))).mono ?_; rintro e w13 ⟨rfl, K13⟩; have HK13 := hide K13; clear K13))
              go_ret
              exact ⟨rfl, (((unhide HK11).trans (unhide HK12)).trans (unhide HK13)).below (Nat.le_refl _) (by simp)⟩
set_option maxRecDepth 100000 in
theorem lifted (os : Os) (started : os.Started) (H : Type) (enc : TypeId × Value → H) :
    ReturnsInHanded {} Tryd.checked os 7 .any (fun w args => (Rows.compactGivenSpec.pre enc Tryd.prog Tryd.f7 [] false w args ∧ laidMetH Tryd.prog laid1 w) ∧ sizedMet enc Tryd.prog Tryd.f7 (OpenSpec.ofChange Rows.compactGivenSpec) false w args) (Rows.compactGivenSpec.post enc Tryd.prog Tryd.f7 false true false false) := by
  refine returnsInHanded_of_change_and (C := Tryd.checked) (X := fun w _ => laidMetH Tryd.prog laid1 w) (fun _ _ _ hh h => h.of_heap hh) own started (by kernel_rfl) Tryd.func7
    (ChangeSpec.witness_shaped (enc := enc) (C := Tryd.checked) (os := os) (X := fun w _ => laidMetH Tryd.prog laid1 w) false (World.doorLaid Tryd.prog 400 os) #[.int .i64 0] 8 rfl (World.shaped_of_RefB (by kernel_rfl) (by kernel_rfl)) (by kernel_rfl) (by kernel_rfl) (by kernel_rfl) (door_met os _)) ?_
  intro W base args ds gs before hval0 hW hcnd hsz0 hL _
  have hG := gl_of_laid hL
  have hval : ∀ (j : Nat) t v, Tryd.f7.params[j]? = some t → args[j]? = some v → Value.okWide Tryd.prog W .any base t v := hval0
  have hW' := hW
  obtain ⟨p, q, hA0, hV, rfl, hfz, hnd⟩ := hW
  have hA : DataW.TrodAll enc Tryd.prog W 0 (fun _ => true) true Tryd.f7.params.toList args.toList ds p := hA0
  rw [Tryd.params7] at hA hval
  obtain ⟨v0, vs0, d0, ds0, p0, q0, hargs, rfl, rfl, h0, r0⟩ := trodAll_cons hA
  obtain ⟨rfl, rfl, rfl⟩ := trodAll_nil r0
  obtain rfl : args = #[v0] := by cases args; simp_all
  obtain ⟨rfl, rfl⟩ := trodVars_none hV
  obtain ⟨a0, rfl, rfl, rfl, w0⟩ := open_int Tryd.underlying3 (hval 0 3 v0 rfl rfl) h0
  clear hA0 hval0
  refine (walk a0 W hG (bounds_i64 w0)).mono fun e W' ⟨he, bel⟩ => ?_
  subst he
  exact ⟨_, rfl, _, _, _, [], _, [], hW', trodAll_mk1 (shut_bool Tryd.underlying4 _), (trodAll_cons_mk (shut_int Tryd.underlying3 w0) trodAll_mk0), rfl, bel.frame _, fun h => by cases h⟩

theorem over : Rows.compactGivenRow.holds Tryd.pinned (OpenSpec.ofChange Rows.compactGivenSpec) :=
  OpenClaim.holds_of_wide 7 Tryd.f7 rfl rfl rfl rfl rfl rfl rfl ⟨rfl, rfl, rfl, rfl, rfl⟩ rfl rfl rfl rfl rfl (by kernel_rfl) Tryd.func7 (by kernel_rfl)
    (of_decide_eq_true (by kernel_rfl)) (by unfold Func.isWrapper; first | (rw [if_pos (by decide +kernel)]; kernel_rfl) | (rw [if_neg (by decide +kernel)]; exact ⟨rfl, rfl⟩))
    (fun os started H enc _ => lifted os started H enc)
end Go.Proofs.YtiabccgabbdedaaDoor.compactGiven

namespace Go.Proofs.YtiabccgabbdedaaDoor
/-- The given statement: the tied card. -/
theorem CompactGiven_holds : Rows.CompactGivenCardSaid :=
  Claim7.holds_tied_plain_at .later [] [.data, .data, .data] true Rows.compactGivenCard.stood.harness false
    compactGiven.over (fun _ h => by cases h) (by kernel_rfl) (fun _ h => by cases h) compactGiven_row_tie rfl ⟨rfl, rfl⟩ (by kernel_rfl) rfl
    (fun f fn hf hfn => by
      obtain rfl : f = 7 := Option.some.inj ((show Tryd.prog.funcNamed "broadsheet/broadsheetlaw7.CompactGiven" = some 7 by kernel_rfl).symm.trans hf) |>.symm
      obtain rfl : fn = Tryd.f7 := (Option.some.inj (Tryd.func7.symm.trans hfn)).symm
      exact ⟨by kernel_rfl, fun j t ht => by
        rw [Tryd.params7] at ht
        have hm : t ∈ ([3] : List TypeId) := by simpa using Array.mem_of_getElem? ht
        have hall : (([3] : List TypeId).all fun u => !Tryd.prog.wantsStandIn u) = true := by kernel_rfl
        exact (show Tryd.prog.wantsStandIn t = false by simpa using List.all_eq_true.1 hall t hm)⟩)
    (by kernel_rfl)
#print axioms CompactGiven_holds
end Go.Proofs.YtiabccgabbdedaaDoor
