/-
  The statement OnceAgainCardSaid: for all seeds, keys and messages the law function OnceAgain returns true and leaves its arguments as they were; the table hash.roundWords starts as the program's text lays it (tied). No other condition.
-/
import Derived.Test.YtacfciimialobabDoorOTurn
import Derived.Test.YtacfciimialobabDoorTie
import Derived.Test.YtacfciimialobabDoorCards
import Derived.SevenTiedAt
namespace Go.Proofs.YtacfciimialobabDoor.onceAgain
open Go.ChangeShapes Go.WideShapes Go.ChangeAt Go.RowKit
open Go.Proofs.YtacfciimialobabDoor
set_option linter.unusedVariables false

/-- a row of 32 bytes of the call's own, whatever they are. -/
def Loose (w : World) (base : Nat) (v : Value) : Prop := ∃ bs : List Int, bs.length = 32 ∧ Row w base v bs
theorem Loose.spot {w : World} {base : Nat} {v : Value} (h : Loose w base v) : ∃ g c, v = .slice (some ⟨g, 0, none⟩) 32 c ∧ base ≤ g ∧ (∀ k, k < 32 → ∃ y, w.cell? ⟨g, k, none⟩ = some (.int .u8 y)) ∧ (∀ k, w.frozen? ⟨g, k, none⟩ = false) := by
  obtain ⟨bs, hl, hr⟩ := h
  obtain ⟨ao, c, rfl⟩ := hr.shape
  rw [hl] at hr ⊢
  obtain ⟨g, rfl, h1, _, h2, h3, _⟩ := hr.spot (by omega)
  exact ⟨g, c, rfl, h1, fun k hk => ⟨_, h2 k (by omega)⟩, h3⟩
theorem Loose.write {w : World} {base : Nat} {v : Value} (h : Loose w base v) (g k : Nat) (b : Int) : Loose (w.setCell ⟨g, k, none⟩ (.int .u8 b)) base v := by
  obtain ⟨bs, hl, hr⟩ := h
  obtain ⟨ao, c, rfl⟩ := hr.shape
  obtain ⟨g', rfl, h1, _, h2, h3, hst⟩ := hr.spot (by omega)
  by_cases hg : g' = g
  · subst hg
    exact ⟨_, by rw [List.length_set]; exact hl, hst k b⟩
  · exact ⟨bs, hl, hr.kept ((Kp.refl [g] w).setCell (p := ⟨g, k, none⟩) (.inl (by simp)) _) (fun j hj => by
      have : g' = j := by simpa [Value.ownBlock] using hj
      simp; omega)⟩
/-- what stands while what was told is turned. -/
def Inv (w : World) (v p : Value) (l : List Value) (wr : World) : Prop := RowV wr w.heap.size v l ∧ (∀ x ∈ l, Loose wr w.heap.size x) ∧ Loose wr w.heap.size p ∧ Kp [] w wr
theorem Inv.write {w wr : World} {v p : Value} {l : List Value} (h : Inv w v p l wr) {g : Nat} (hg : w.heap.size ≤ g) (hv : v.ownBlock ≠ some g) (k : Nat) (b : Int) : Inv w v p l (wr.setCell ⟨g, k, none⟩ (.int .u8 b)) :=
  ⟨h.1.kept ((Kp.refl [g] wr).setCell (p := ⟨g, k, none⟩) (.inl (by simp)) _) (fun j hj hm => hv (by simp at hm; subst hm; exact hj)), fun x hx => (h.2.1 x hx).write g k b, h.2.2.1.write g k b, h.2.2.2.setCell (p := ⟨g, k, none⟩) (.inr hg) _⟩

set_option maxRecDepth 100000 in
set_option maxHeartbeats 4000000 in
theorem walk (v0 : Value) (bs0 : List Int) (key : Int) (v2 : Value) (ms0 : List Int) (w : World) (hG : Gl w) (hb0 : Sl w v0 bs0) (hB0 : Bs bs0) (hkey : -9223372036854775808 ≤ key ∧ key ≤ 9223372036854775807) (hm0 : Sl w v2 ms0) (hM0 : Bs ms0) :
    Calls Tryd.prog 3 #[v0, .int .i64 key, v2] w fun e w' => e = .returned (.bool true) ∧ Below w.heap.size w w' := by
  have HG := hide hG
  obtain ⟨bs, hbs⟩ : ∃ bs, bs = bs0.take 40 := ⟨_, rfl⟩
  obtain ⟨ms, hms⟩ : ∃ ms, ms = ms0.take 60 := ⟨_, rfl⟩
  have hbl : bs.length ≤ 40 := by rw [hbs]; simp; omega
  have hml : ms.length ≤ 60 := by rw [hms]; simp; omega
  have HBb : Hid (Bs bs) := by rw [hbs]; exact hB0.take _
  have HBm : Hid (Bs ms) := by rw [hms]; exact hM0.take _
  have kb := cut_any v0 bs0 40 w hb0
  have kc := cut_any v2 ms0 60 w hm0
  rw [← hbs] at kb
  rw [← hms] at kc
  have KB := hide kb
  have KC := hide kc
  have HB0 := hide hb0
  have HC0 := hide hm0
  clear hG kb kc hb0 hm0 hB0 hM0 hbs hms hkey
  go_enter Tryd.func3, Tryd.ntmps3
  go_wp2_with fail
  refine (unhide KB).mono ?_
  rintro ee w1 ⟨ab, cb, rfl, hT1, hw⟩
  subst w1
  have B1 := hide (hT1 _ (unhide HB0))
  go_wp2_with fail
  refine (unhide KC).mono ?_
  rintro ee w1 ⟨am, cm, rfl, hT2, hw⟩
  subst w1
  have C1 := hide (hT2 _ (unhide HC0))
  clear hT1 hT2 KB KC HB0 HC0
  obtain ⟨n, hn⟩ : ∃ n, n = bs.length := ⟨_, rfl⟩
  obtain ⟨m, hm⟩ : ∃ m, m = ms.length := ⟨_, rfl⟩
  rw [← hn] at B1 ⊢
  rw [← hm] at C1 ⊢
  clear hn hm
  obtain ⟨d, hd⟩ : ∃ d, d = digP ms := ⟨_, rfl⟩
  have HD := hide hd
  obtain ⟨r3, hr3⟩ : ∃ r, r = pubP bs key := ⟨_, rfl⟩
  have hr3l : r3.length = 32 := by rw [hr3]; exact pubP_len _ _
  have HR3 := hide hr3
  obtain ⟨S3, hS3⟩ : ∃ S, S = strOfNums r3 := ⟨_, rfl⟩
  have HS3 := hide hS3
  have HSG := hide (fun w' (k : Kp [] w w') => sign_any (.slice ab n cb) bs key (.slice am m cm) ms d (unhide HD) w' ((unhide B1).kept k (by simp)) (unhide HBb) (by omega) ((unhide C1).kept k (by simp)) (unhide HBm) (by omega) ((unhide HG).kept k (by simp)))
  have HPU := hide (fun w' (k : Kp [] w w') => public_any (.slice ab n cb) bs key r3 (unhide HR3) w' ((unhide B1).kept k (by simp)) (unhide HBb) (by omega) ((unhide HG).kept k (by simp)))
  clear hd hr3 hS3
  go_wp2_with fail
  refine (unhide HSG w (Kp.refl _ _)).mono ?_
  rintro ee w3 ⟨a3, m3, c3, rfl, A3⟩
  obtain rfl : m3 = 64 := by rw [A3.cap, sgnP, ptsP_len]
  obtain ⟨l, hP, hl2, K3⟩ := A3
  have hl64 : l.length = 64 := by rw [← List.length_map (f := (·.2)), hl2, sgnP, ptsP_len]
  have h32 : ∀ x ∈ l, x.2.length = 32 := fun x hx => by
    have : x.2 ∈ sgnP bs key d := by rw [← hl2]; exact List.mem_map.2 ⟨x, hx, rfl⟩
    exact areP_at (areP_sgn bs key d) _ this
  obtain ⟨g, rfl, hgb, hgs, hj0, hj1, hj2⟩ := hP.rowS.spot (by omega)
  have HP := hide hP
  have HK3 := hide K3
  have H32 := hide h32
  have HL64 := hide hl64
  clear hP K3 hj0 hj1 hj2 hl2 h32 hl64
  go_wp2_with fail
  refine (unhide HPU w3 (unhide HK3)).mono ?_
  rintro ee w4 ⟨a4, m4, c4, rfl, R4, K4⟩
  obtain rfl : m4 = 32 := R4.len.trans hr3l
  obtain ⟨g4, rfl, hg4, _, _, _, _⟩ := R4.spot (by omega)
  have hcv := R4.sl.conv (P := Tryd.prog) 22 9 5 Tryd.underlying22 Tryd.underlying5 Tryd.underlying9
  rw [← unhide HS3] at hcv
  have INV : Hid (Inv w (.slice (some ⟨g, 0, none⟩) 64 c3) (.slice (some ⟨g4, 0, none⟩) 32 c4) (l.map (·.1)) w4) := by
    have hP4 := (unhide HP).kept K4
    refine ⟨hP4.1, fun x hx => ?_, ⟨r3, hr3l, row_new R4 (unhide HK3)⟩, (unhide HK3).trans K4⟩
    obtain ⟨y, hy, rfl⟩ := List.mem_map.1 hx
    exact ⟨y.2, unhide H32 y hy, (hP4.2 y hy).1⟩
  have HAP : Hid (∀ x ∈ l.map (·.1), ∀ k, x.ownBlock = some k → g ≠ k) := by
    intro x hx k hk e
    obtain ⟨y, hy, rfl⟩ := List.mem_map.1 hx
    exact ((unhide HP).2 y hy).2.2 k hk (by subst e; rfl)
  have hgg : g ≠ g4 := by omega
  obtain ⟨vs, hvs⟩ : ∃ vs, vs = l.map (·.1) := ⟨_, rfl⟩
  have HVL : Hid (vs.length = 64) := by rw [hvs, List.length_map]; exact unhide HL64
  rw [← hvs] at INV HAP
  have hg4w : w.heap.size ≤ g4 := by have := (unhide HK3).size; omega
  clear R4 K4 HP HK3 H32 HL64 hvs hg4
  go_wp2_with fail
  clear hcv
  go_loopw [10] (fun i wr => ∃ k : Nat, k ≤ 64 ∧ i = .int .i64 k ∧ Inv w (.slice (some ⟨g, 0, none⟩) 64 c3) (.slice (some ⟨g4, 0, none⟩) 32 c4) vs wr) (fun i _ => 64 - (intOf i).toNat)
  case atStart => exact ⟨0, by omega, rfl, unhide INV⟩
  case round =>
    clear INV
    obtain ⟨i, hi, rfl, Ir⟩ := hrel
    by_cases hlt : i < 64
    · have hlt2 : (i : Int) < 64 := by omega
      have hil : i < vs.length := by have := unhide HVL; omega
      obtain ⟨x, hx⟩ : ∃ x, x = vs[i] := ⟨_, rfl⟩
      have hxm : x ∈ vs := by rw [hx]; exact List.getElem_mem hil
      obtain ⟨gx, cx, hxv, hgx, _, _⟩ := (Ir.2.1 x hxm).spot
      have hgne := unhide HAP x hxm gx (by rw [hxv]; rfl)
      have HXC : Hid (∀ w', Inv w (.slice (some ⟨g, 0, none⟩) 64 c3) (.slice (some ⟨g4, 0, none⟩) 32 c4) vs w' → w'.cell? ⟨g, i, none⟩ = some (.slice (some ⟨gx, 0, none⟩) 32 cx) ∧ (∀ k, k < 32 → ∃ y, w'.cell? ⟨gx, k, none⟩ = some (.int .u8 y)) ∧ ∀ k, w'.frozen? ⟨gx, k, none⟩ = false) := fun w' h => by
        have h1 := h.1.cells (g := g) rfl i vs[i] (by simp [List.getElem?_eq_getElem hil])
        rw [← hx, hxv] at h1
        obtain ⟨g', c', e, _, h2, h3⟩ := (h.2.1 x hxm).spot
        rw [hxv] at e
        injection e with e1 e2 e3
        injection e1 with e1
        injection e1 with e1
        subst e1
        exact ⟨by simpa [Addr.add_lit] using h1, h2, h3⟩
      have HI := hide Ir
      clear Ir hx hxm hxv
      obtain ⟨wo, hwo⟩ : ∃ wo, wo = wr := ⟨_, rfl⟩
      subst hwo
      go_wp2_with fail
      go_loopw [11] (fun j wi => ∃ k : Nat, k ≤ 32 ∧ j = .int .i64 k ∧ Inv w (.slice (some ⟨g, 0, none⟩) 64 c3) (.slice (some ⟨g4, 0, none⟩) 32 c4) vs wi) (fun j _ => 32 - (intOf j).toNat)
      case atStart => exact ⟨0, by omega, rfl, unhide HI⟩
      case round =>
        clear HI
        obtain ⟨k, hk, rfl, Ii⟩ := hrel
        obtain ⟨hc1, hc2, hc3⟩ := unhide HXC wr Ii
        by_cases hlk : k < 32
        · have hlk2 : (k : Int) < 32 := by omega
          obtain ⟨y, hy⟩ := hc2 k hlk
          have hfz := hc3 k
          have HIW := hide (Ii.write hgx (by simp [Value.ownBlock]; exact hgne) k)
          clear hc2 hc3 Ii
          go_wp2_with fail
          go_roundw
          case rel => exact ⟨k + 1, by omega, by go_num, unhide HIW _⟩
          case measure => simp [intOf]; omega
        · have hlk3 : ¬ (k : Int) < 32 := by omega
          have HIi := hide Ii
          clear hc2 hc3 Ii
          go_wp2_with fail
          go_roundw
          case rel => exact ⟨i + 1, by omega, by go_num, unhide HIi⟩
          case measure => simp [intOf]; omega
    · have hlt3 : ¬ (i : Int) < 64 := by omega
      have HI := hide Ir
      clear Ir
      obtain ⟨wo, hwo⟩ : ∃ wo, wo = wr := ⟨_, rfl⟩
      subst hwo
      go_wp2_with fail
      go_loopw [12] (fun j wi => ∃ k : Nat, k ≤ 32 ∧ j = .int .i64 k ∧ Inv w (.slice (some ⟨g, 0, none⟩) 64 c3) (.slice (some ⟨g4, 0, none⟩) 32 c4) vs wi) (fun j _ => 32 - (intOf j).toNat)
      case atStart => exact ⟨0, by omega, rfl, unhide HI⟩
      case round =>
        clear HI
        obtain ⟨k, hk, rfl, Ii⟩ := hrel
        by_cases hlk : k < 32
        · have hlk2 : (k : Int) < 32 := by omega
          obtain ⟨g', c', e, _, hc2, hc3⟩ := Ii.2.2.1.spot
          injection e with e1 e2 e3
          injection e1 with e1
          injection e1 with e1
          subst e1
          obtain ⟨y, hy⟩ := hc2 k hlk
          have hfz := hc3 k
          have HIW := hide (Ii.write hg4w (by simp [Value.ownBlock]; exact hgg) k)
          clear hc2 hc3 Ii e2 e3
          go_wp2_with fail
          go_roundw
          case rel => exact ⟨k + 1, by omega, by go_num, unhide HIW _⟩
          case measure => simp [intOf]; omega
        · have hlk3 : ¬ (k : Int) < 32 := by omega
          have HK5 := hide Ii.2.2.2
          clear Ii
          go_wp2_with fail
          refine (unhide HSG wr (unhide HK5)).mono ?_
          rintro ee w6 ⟨a6, m6, c6, rfl, A6⟩
          obtain rfl : m6 = 64 := by rw [A6.cap, sgnP, ptsP_len]
          obtain ⟨l6, hL6, hl6⟩ := A6.lists (by rw [sgnP, ptsP_len]; omega)
          have HK6 := hide ((unhide HK5).trans A6.kp)
          have HL6 := hide hL6
          have HE6 := hide hl6
          clear A6 hL6 hl6 HK5
          go_wp2_with fail
          refine (root_any _ ms _ l6 d true r3 (unhide HD) (by rw [unhide HE6, areP_sgn]) (by rw [unhide HE6, rootP_sgn, unhide HR3]) w6 ((unhide C1).kept (unhide HK6) (by simp)) (unhide HBm) (by omega) (unhide HL6) ((unhide HG).kept (unhide HK6) (by simp))).mono ?_
          rintro ee w7 ⟨v, rfl, hRt, K7⟩
          obtain ⟨a7, m7, c7, rfl, R7⟩ : ∃ ao m c, v = .slice ao m c ∧ Row w7 w6.heap.size v r3 := hRt
          have hcv7 := R7.sl.conv (P := Tryd.prog) 22 9 5 Tryd.underlying22 Tryd.underlying5 Tryd.underlying9
          rw [← unhide HS3] at hcv7
          have HK7 := hide ((unhide HK6).trans K7)
          clear R7 K7 HK6 HL6 HE6
          go_wp2_with fail
          clear hcv7
          refine (unhide HPU w7 (unhide HK7)).mono ?_
          rintro ee w8 ⟨a8, m8, c8, rfl, R8, K8⟩
          have hcv8 := R8.sl.conv (P := Tryd.prog) 22 9 5 Tryd.underlying22 Tryd.underlying5 Tryd.underlying9
          rw [← unhide HS3] at hcv8
          have HK8 := hide ((unhide HK7).trans K8)
          clear R8 K8 HK7
          go_wp2_with fail
          clear hcv8
          refine (known_any w8 ((unhide HG).kept (unhide HK8) (by simp))).mono ?_
          rintro ee w9 ⟨rfl, K9⟩
          go_wp2_with fail
          go_ret
          exact ⟨rfl, ((unhide HK8).trans K9).below (Nat.le_refl _) (by simp)⟩
set_option maxRecDepth 100000 in
theorem lifted (os : Os) (started : os.Started) (H : Type) (enc : TypeId × Value → H) :
    ReturnsInHanded {} Tryd.checked os 3 .any (fun w args => (Rows.onceAgainSpec.pre enc Tryd.prog Tryd.f3 [] false w args ∧ laidMetH Tryd.prog laid1 w) ∧ sizedMet enc Tryd.prog Tryd.f3 (OpenSpec.ofChange Rows.onceAgainSpec) false w args) (Rows.onceAgainSpec.post enc Tryd.prog Tryd.f3 false true false false) := by
  refine returnsInHanded_of_change_and (C := Tryd.checked) (X := fun w _ => laidMetH Tryd.prog laid1 w) (fun _ _ _ hh h => h.of_heap hh) own started (by kernel_rfl) Tryd.func3
    (ChangeSpec.witness_shaped (enc := enc) (C := Tryd.checked) (os := os) (X := fun w _ => laidMetH Tryd.prog laid1 w) false (World.doorLaid Tryd.prog 400 os) #[.slice none 0 0, .int .i64 0, .slice none 0 0] 8 rfl (World.shaped_of_RefB (by kernel_rfl) (by kernel_rfl)) (by kernel_rfl) (by kernel_rfl) (by kernel_rfl) (door_met os _)) ?_
  intro W base args ds gs before hval0 hW hcnd hsz0 hL _
  have hG := gl_of_laid hL
  have hval : ∀ (j : Nat) t v, Tryd.f3.params[j]? = some t → args[j]? = some v → Value.okWide Tryd.prog W .any base t v := hval0
  have hW' := hW
  obtain ⟨p, q, hA0, hV, rfl, hfz, hnd⟩ := hW
  have hA : DataW.TrodAll enc Tryd.prog W 0 (fun _ => true) true Tryd.f3.params.toList args.toList ds p := hA0
  rw [Tryd.params3] at hA hval
  obtain ⟨v0, vs0, d0, ds0, p0, q0, hargs, rfl, rfl, h0, r0⟩ := trodAll_cons hA
  obtain ⟨v1, vs1, d1, ds1, p1, q1, rfl, rfl, rfl, h1, r1⟩ := trodAll_cons r0
  obtain ⟨v2, vs2, d2, ds2, p2, q2, rfl, rfl, rfl, h2, r2⟩ := trodAll_cons r1
  obtain ⟨rfl, rfl, rfl⟩ := trodAll_nil r2
  obtain rfl : args = #[v0, v1, v2] := by cases args; simp_all
  obtain ⟨rfl, rfl⟩ := trodVars_none hV
  obtain ⟨a0, len0, cap0, rfl⟩ := okWide_slice Tryd.underlying22 (hval 0 22 v0 rfl rfl)
  have k0 := h0
  have lt0 : ∀ x ∈ p0, x.block < W.heap.size := by obtain ⟨m, hm⟩ := k0; exact DataW.trod_lt m _ _ _ hm
  obtain ⟨l0, s0, b0⟩ : ∃ bs, Sl W (.slice a0 len0 cap0) bs ∧ Bs bs := by
    obtain ⟨fuel, hf⟩ := h0
    exact bytes_of_trod (by simpa [Value.cells] using hf)
  obtain ⟨a1, rfl, rfl, rfl, w1⟩ := open_int Tryd.underlying3 (hval 1 3 v1 rfl rfl) h1
  obtain ⟨a2, len2, cap2, rfl⟩ := okWide_slice Tryd.underlying22 (hval 2 22 v2 rfl rfl)
  have k2 := h2
  have lt2 : ∀ x ∈ p2, x.block < W.heap.size := by obtain ⟨m, hm⟩ := k2; exact DataW.trod_lt m _ _ _ hm
  obtain ⟨l2, s2, b2⟩ : ∃ bs, Sl W (.slice a2 len2 cap2) bs ∧ Bs bs := by
    obtain ⟨fuel, hf⟩ := h2
    exact bytes_of_trod (by simpa [Value.cells] using hf)
  clear hA0 hval0
  refine (walk (.slice a0 len0 cap0) l0 a1 (.slice a2 len2 cap2) l2 W hG s0 b0 (bounds_i64 w1) s2 b2).mono fun e W' ⟨he, bel⟩ => ?_
  subst he
  exact ⟨_, rfl, _, _, _, [], _, [], hW', trodAll_mk1 (shut_bool Tryd.underlying4 _), (trodAll_cons_mk (Below.trod laidOut (by kernel_rfl) (of_decide_eq_true (by kernel_rfl)) k0 bel lt0) (trodAll_cons_mk (shut_int Tryd.underlying3 w1) (trodAll_cons_mk (Below.trod laidOut (by kernel_rfl) (of_decide_eq_true (by kernel_rfl)) k2 bel lt2) trodAll_mk0))), rfl, bel.frame _, fun h => by cases h⟩

theorem over : Rows.onceAgainRow.holds Tryd.pinned (OpenSpec.ofChange Rows.onceAgainSpec) :=
  OpenClaim.holds_of_wide 3 Tryd.f3 rfl rfl rfl rfl rfl rfl rfl ⟨rfl, rfl, rfl, rfl, rfl⟩ rfl rfl rfl rfl rfl (by kernel_rfl) Tryd.func3 (by kernel_rfl)
    (of_decide_eq_true (by kernel_rfl)) (by unfold Func.isWrapper; first | (rw [if_pos (by decide +kernel)]; kernel_rfl) | (rw [if_neg (by decide +kernel)]; exact ⟨rfl, rfl⟩))
    (fun os started H enc _ => lifted os started H enc)
end Go.Proofs.YtacfciimialobabDoor.onceAgain

namespace Go.Proofs.YtacfciimialobabDoor
/-- The given statement: the tied card. -/
theorem OnceAgain_holds : Rows.OnceAgainCardSaid :=
  Claim7.holds_tied_plain_at .later [] [.data] true Rows.onceAgainCard.stood.harness false
    onceAgain.over (fun _ h => by cases h) (by kernel_rfl) (fun _ h => by cases h) onceAgain_row_tie rfl ⟨rfl, rfl⟩ (by kernel_rfl) rfl
    (fun f fn hf hfn => by
      obtain rfl : f = 3 := Option.some.inj ((show Tryd.prog.funcNamed "broadsheet/broadsheetlaw4.OnceAgain" = some 3 by kernel_rfl).symm.trans hf) |>.symm
      obtain rfl : fn = Tryd.f3 := (Option.some.inj (Tryd.func3.symm.trans hfn)).symm
      exact ⟨by kernel_rfl, fun j t ht => by
        rw [Tryd.params3] at ht
        have hm : t ∈ ([22, 3, 22] : List TypeId) := by simpa using Array.mem_of_getElem? ht
        have hall : (([22, 3, 22] : List TypeId).all fun u => !Tryd.prog.wantsStandIn u) = true := by kernel_rfl
        exact (show Tryd.prog.wantsStandIn t = false by simpa using List.all_eq_true.1 hall t hm)⟩)
    (by kernel_rfl)
#print axioms OnceAgain_holds
end Go.Proofs.YtacfciimialobabDoor
