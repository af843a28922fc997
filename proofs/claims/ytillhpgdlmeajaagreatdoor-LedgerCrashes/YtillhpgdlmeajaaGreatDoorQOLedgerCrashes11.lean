/-
  The statement LedgerCrashesCardSaid: for all lists of lists of numbers, all arms and all that is kept the law function LedgerCrashes returns true and leaves its arguments as they were; the table hash.roundWords starts as the program's text lays it (tied). No other condition.
-/
import Derived.Deep.CutBlock
import Derived.Test.YtillhpgdlmeajaaGreatDoorCards
import Derived.Test.YtillhpgdlmeajaaGreatDoorTie
import Derived.Test.YtillhpgdlmeajaaGreatDoorQOLedgerCrashes10
namespace Go.Proofs.YtillhpgdlmeajaaGreatDoor.ledgerCrashes
open Go.ChangeShapes Go.WideShapes Go.ChangeAt Go.RowKit
open Go.Deep
open Go.Proofs.YtillhpgdlmeajaaGreatDoor
set_option linter.unusedVariables false
theorem itemX_ne (x : Int) : itemX x ≠ [] := by
  intro h
  have h1 := congrArg List.length h
  unfold itemX at h1
  rw [encM_len] at h1
  simp at h1
/-- the blocks that are not the items' row's: the ledger's, and the reference's own. -/
def F1 (f : Fps) (p : Nat) : Nat → Prop := fun j => f.tot j ∨ j = p
def GG (f : Fps) (p : Nat) (v : Value) : Nat → Prop := fun j => f.tot j ∨ j = p ∨ v.ownBlock = some j
section
variable {w w' : World} {f f' : Fps} {p : Nat} {v v' : Value}
theorem stp_f1 (T : LSt w f w' f') : Stp (F1 f p) w w' (F1 f' p) := by
  obtain ⟨⟨U, hU, k⟩, h2⟩ := T
  exact ⟨⟨U, fun i hi => .inl (hU i hi), k⟩, fun i hi => hi.elim (fun h => (h2 i h).imp .inl id) (fun h => .inl (.inr h))⟩
theorem stp_gg (T : LSt w f w' f') : Stp (GG f p v) w w' (GG f' p v) := by
  obtain ⟨⟨U, hU, k⟩, h2⟩ := T
  exact ⟨⟨U, fun i hi => .inl (hU i hi), k⟩, fun i hi => hi.elim (fun h => (h2 i h).imp .inl id) (fun h => .inl (.inr h))⟩
theorem stp_f1p (k : Kp [p] w w') : Stp (F1 f p) w w' (F1 f p) := ⟨⟨[p], fun i hi => .inr (by simpa using hi), k⟩, fun i hi => .inl hi⟩
theorem stp_ggp (k : Kp [p] w w') : Stp (GG f p v) w w' (GG f p v) := ⟨⟨[p], fun i hi => .inr (.inl (by simpa using hi)), k⟩, fun i hi => .inl hi⟩
theorem stp_ggr (s : RStep w v w' v') (hlt : ∀ j, v'.ownBlock = some j → j < w'.heap.size) : Stp (GG f p v) w w' (GG f p v') := by
  refine ⟨⟨v.ownBlock.toList, fun i hi => .inr (.inr (by simpa [Option.mem_toList] using hi)), s.1⟩, fun i hi => ?_⟩
  rcases hi with h | h | h
  · exact .inl (.inl h)
  · exact .inl (.inr (.inl h))
  · rcases s.2 i h with h1 | h1
    · exact .inl (.inr (.inr h1))
    · exact .inr ⟨h1, hlt i h⟩
end
/-- several more. -/
theorem al_puts {w0 w w' : World} {F : Nat → Prop} {v v' : Value} {la lf : List (Value × List Int)} (h : Al w0 w F v la) (hF : ∀ i, F i → i < w.heap.size) (r : RowV w' w0.heap.size v' ((la ++ lf).map (·.1))) (s : RStep w v w' v') (hx : ∀ x ∈ lf, Sl w x.1 x.2 ∧ Bs x.2 ∧ ∀ k, x.1.ownBlock = some k → w0.heap.size ≤ k ∧ k < w.heap.size ∧ ¬ F k ∧ v.ownBlock ≠ some k) : Al w0 w' F v' (la ++ lf) := by
  have hs := s.1.size
  have hown : ∀ j ∈ v.ownBlock.toList, v.ownBlock = some j := fun j hj => by simpa [Option.mem_toList] using hj
  refine ⟨⟨⟨r, fun x hx1 => ?_⟩, fun x hx1 k hk => ?_⟩, fun k hk => ⟨r.lt hk, ?_⟩, fun y hy k hk => ?_⟩
  · rcases List.mem_append.1 hx1 with h1 | h1
    · obtain ⟨g1, g2, g3⟩ := h.row.1.2 x h1
      refine ⟨g1.apart s.1 (fun i hi hm => g3 i hi (hown i hm)), g2, fun j hj hv => ?_⟩
      rcases s.2 j hv with h2 | h2
      · exact g3 j hj h2
      · have := (h.its x h1 j hj).1; omega
    · obtain ⟨g1, g2, g3⟩ := hx x h1
      refine ⟨g1.kept s.1 (fun i hi hm => (g3 i hi).2.2.2 (hown i hm)), g2, fun j hj hv => ?_⟩
      rcases s.2 j hv with h2 | h2
      · exact absurd h2 (g3 j hj).2.2.2
      · have := (g3 j hj).2.1; omega
  · rcases List.mem_append.1 hx1 with h1 | h1
    · exact h.row.2 x h1 k hk
    · exact ((hx x h1).2.2 k hk).1
  · rcases s.2 k hk with h1 | h1
    · exact (h.own k h1).2
    · exact fun e => by have := hF k e; omega
  · rcases List.mem_append.1 hy with h1 | h1
    · exact ⟨by have := (h.its y h1 k hk).1; omega, (h.its y h1 k hk).2⟩
    · exact ⟨by have := ((hx y h1).2.2 k hk).2.1; omega, ((hx y h1).2.2 k hk).2.2.1⟩
/-- the ledger and what is expected of it: kd Adds and kb Publishes behind their beginning. -/
def CrI (w : World) (l pd pk p kd kb : Nat) (u : Int) (aU : Option Addr) (mU cU : Nat) (wr : World) : Prop :=
  ∃ (S : LS) (f : Fps) (ai : Option Addr) (mi ci : Nat) (lA lU : List (Value × List Int)) (und : List (List Int)), Lg w wr l pd pk S f ∧ Ld S.dd S.its und (400 * kd) ∧ Stn S.dk S.n ∧ UsedI S u ∧ S.mj ≤ kd ∧ S.mb ≤ kb ∧ S.its.length ≤ 6 * kd ∧ (w.heap.size ≤ p ∧ p < wr.heap.size ∧ ¬ f.tot p) ∧ RLi wr p (.slice ai mi ci) ∧ Al w wr (F1 f p) (.slice ai mi ci) lA ∧ lA.map (·.2) = S.its ∧ mi = S.its.length ∧ Al w wr (GG f p (.slice ai mi ci)) (.slice aU mU cU) lU ∧ lU.map (·.2) = und ∧ mU = und.length ∧ (und = [] → aU = none ∧ cU = 0)
set_option maxRecDepth 100000 in
set_option maxHeartbeats 16000000 in
theorem walk (v : Value) (xss : List (Value × List Int)) (pa pb pc pe : Int) (w : World) (hG : Gl w) (hL : Intss w v xss) (hpa : -9223372036854775808 ≤ pa ∧ pa ≤ 9223372036854775807) (hpb : -9223372036854775808 ≤ pb ∧ pb ≤ 9223372036854775807) (hpc : -9223372036854775808 ≤ pc ∧ pc ≤ 9223372036854775807) (hpe : -9223372036854775808 ≤ pe ∧ pe ≤ 9223372036854775807) :
    Calls Tryz.prog 7 #[v, .int .i64 pa, .int .i64 pb, .int .i64 pc, .int .i64 pe] w fun e w' => e = .returned (.bool true) ∧ Below w.heap.size w w' := by
  have HG := hide hG
  obtain ⟨al, cl, rfl, hlm, hcell⟩ := hL
  obtain ⟨N, hN⟩ : ∃ N, N = xss.length := ⟨_, rfl⟩
  have HC : Hid (∀ i (h : i < N), ∃ b off vx ys, al = some ⟨b, off, none⟩ ∧ w.cell? ⟨b, off + i, none⟩ = some vx ∧ Ints w vx ys) := fun i hi => by
    obtain ⟨b, off, e, hc, hI⟩ := hcell i (by omega)
    exact ⟨b, off, _, _, e, hc, hI⟩
  rw [← hN] at hlm ⊢
  have HF1 := hide (fresh_any w)
  have HWa := hide (fun w => within_wi pa 0 20 w (by omega) (by omega) (by omega))
  have HWb := hide (fun w => within_wi pb 0 12 w (by omega) (by omega) (by omega))
  have hwa := wiP_ge pa 0 20 (by omega)
  have hwb := wiP_ge pb 0 12 (by omega)
  obtain ⟨qa, hqa⟩ : ∃ q, q = wiP pa 0 20 := ⟨_, rfl⟩
  obtain ⟨qb, hqb⟩ : ∃ q, q = wiP pb 0 12 := ⟨_, rfl⟩
  rw [← hqa] at HWa hwa
  rw [← hqb] at HWb hwb
  have HQa := hide hwa
  have HQb := hide hwb
  clear hG hcell hN hpa hpb hpc hpe hwa hwb hqa hqb
  go_enter Tryz.func7, Tryz.ntmps7
  go_wp2_with fail
  refine HF1.out.mono ?_
  rintro ee w1 ⟨pd, rfl, N1⟩
  have HN1 := hide N1
  have HF2 := hide (fresh_any w1)
  clear HF1 N1
  go_wp2_with fail
  refine HF2.out.mono ?_
  rintro ee w2 ⟨pk, rfl, N2⟩
  have HN2 := hide N2
  have HSd := hide (xseed_any 4 w2)
  clear HF2 N2
  go_wp2_with fail
  refine HSd.out.mono ?_
  rintro ee w3 ⟨as_, ms, cs, rfl, R3, K3⟩
  have HO := hide (uopen_fresh HN1.out HN2.out K3 R3 (seedX_bs 4) (seedX_len 4))
  clear HSd R3 K3 HN1 HN2
  go_wp2_with fail
  refine HO.out.mono ?_
  rintro ee w4 ⟨l, rfl, f4, L4⟩
  have HAr := hide (uarmD_any L4 qa (by have := HQa.out; omega) (upL [] qa) (upL_arm qa HQa.out.1))
  clear HO L4
  go_wp2_with fail
  refine (HWa.out w4).mono ?_
  rintro ee w5 ⟨rfl, hw5⟩
  subst w5
  go_wp2_with fail
  refine HAr.out.mono ?_
  rintro ee w5 ⟨rfl, f5, L5, -⟩
  have HAk := hide (uarmK_any L5 qb (by have := HQb.out; omega) (upD 0 qb) (upD_arm 0 qb HQb.out.1))
  clear HAr L5
  go_wp2_with fail
  refine (HWb.out w5).mono ?_
  rintro ee w6 ⟨rfl, hw6⟩
  subst w6
  go_wp2_with fail
  refine HAk.out.mono ?_
  rintro ee w6 ⟨rfl, f6, L6, -⟩
  obtain ⟨p, hp⟩ : ∃ p, p = w6.heap.size := ⟨_, rfl⟩
  obtain ⟨w7, hw7⟩ : ∃ y, y = w6.alloc (.cells #[.slice none 0 0, .pointer none, .int .i64 0, .int .i64 0, .slice none 0 0, .int .i64 0, .slice none 0 0, .slice none 0 0, .bool false] 74) := ⟨_, rfl⟩
  have K7 : Kp [] w6 w7 := by rw [hw7]; exact (Kp.refl [] _).alloc _
  have HI : Hid (CrI w l pd pk p 0 0 (-1) none 0 0 w7) := hide (by
    have hs7 : w7.heap.size = p + 1 := by rw [hw7, hp]; simp
    have h0 := L6.kp.size
    refine ⟨_, f6, none, 0, 0, [], [], [], L6.on K7, ⟨⟨[], rfl, by simp, by simp [layP], .inl ⟨rfl, qa, HQa.out.1, rfl⟩⟩, by simp [ls0], by simp, by simp [batU, bq_len], by simp [ls0]⟩, ⟨Nat.zero_le _, .inl ⟨qb, HQb.out.1, rfl⟩⟩, .inl ⟨rfl, rfl⟩, Nat.le_refl _, Nat.le_refl _, Nat.le_refl _, ⟨by omega, by omega, fun e => by have := (L6.lt p e).2; omega⟩, by rw [hw7, hp]; exact heap_alloc_new w6 _, al_nil _ _ _, rfl, rfl, al_nil _ _ _, rfl, rfl, fun _ => ⟨rfl, rfl⟩⟩)
  have HW7 := hide hw7
  have HP := hide hp
  clear HAk L6 K7 hw7 hp
  go_wp2_with fail
  rw [← HW7.out, ← HP.out]
  go_loopw [16, 17, 18] (fun vu u i wr => ∃ k : Nat, k ≤ N ∧ k ≤ 10 ∧ i = .int .i64 k ∧ ∃ (uI : Int) (aU : Option Addr) (mU cU : Nat), vu = .slice aU mU cU ∧ u = .int .i64 uI ∧ CrI w l pd pk p k k uI aU mU cU wr) (fun _ _ i _ => N - (intOf i).toNat)
  case atStart => exact ⟨0, by omega, by omega, rfl, -1, none, 0, 0, rfl, rfl, HI.out⟩
  case round =>
    clear HI
    obtain ⟨k, hkN, hk10, rfl, uI, aU, mU, cU, rfl, rfl, S, f, ai, mi, ci, lA, lU, und, hLg, hLd, hSt, hUs, hmj, hmb, hil, hpf, hRL, hAl, hlA, hmi, hAu, hlU, hmU, hnU⟩ := hrel
    have HLg := hide hLg
    have HLd := hide hLd
    have HSt := hide hSt
    have HUs := hide hUs
    have HMj := hide hmj
    have HMb := hide hmb
    have HIl := hide hil
    have HPf := hide hpf
    have HRL := hide hRL
    have HAl := hide hAl
    have HLA := hide hlA
    have HMi := hide hmi
    have HAu := hide hAu
    have HLU := hide hlU
    have HMu := hide hmU
    have HNu := hide hnU
    clear hLg hLd hSt hUs hmj hmb hil hpf hRL hAl hlA hmi hAu hlU hmU hnU
    by_cases hlt : k < N ∧ k < 10
    · obtain ⟨hl1, hl2⟩ := hlt
      have hl1' : (k : Int) < (N : Int) := by omega
      have hl2' : (k : Int) < 10 := by omega
      have hd1 : decide ((k : Int) < (N : Int)) = true := decide_eq_true hl1'
      have hd2 : decide ((k : Int) < 10) = true := decide_eq_true hl2'
      obtain ⟨b0, o0, vy, ys0, rfl, hc, hI⟩ := HC.out k hl1
      have hcx := HLg.out.kp.cell hc (by simp)
      have hI' := hI.kept HLg.out.kp
      obtain ⟨ys, hys⟩ : ∃ y, y = ys0.take 6 := ⟨_, rfl⟩
      have HIt := hide (uitems_any vy ys0 ys hys wr hI')
      have hyl : ys.length ≤ 6 := by rw [hys, List.length_take]; omega
      have HYl := hide hyl
      obtain ⟨ay, cy, hvy, -⟩ := hI'
      obtain ⟨ny, hny⟩ : ∃ n, n = ys0.length := ⟨_, rfl⟩
      rw [← hny] at hvy
      subst hvy
      clear hc hI hys hyl hny
      go_wp2_with fail
      refine HIt.out.mono ?_
      rintro ee w5 ⟨ax, mx, cx, rfl, K5, hm, lx, R5, hlx⟩
      obtain ⟨xs, hxs⟩ : ∃ x, x = ys.map itemX := ⟨_, rfl⟩
      rw [← hxs] at hlx
      have hxl : xs.length ≤ 6 := by rw [hxs, List.length_map]; exact HYl.out
      have hlxl : lx.length ≤ 6 := by rw [← List.length_map (f := (·.2)), hlx]; exact hxl
      have hx62 : ∀ x ∈ xs, x.length ≤ 62 := fun x hx => by
        rw [hxs] at hx
        obtain ⟨y, _, rfl⟩ := List.mem_map.1 hx
        exact itemX_len y
      have hxne : ∀ x ∈ lx, x.2 ≠ [] := fun x hx => by
        have h1 : x.2 ∈ xs := by rw [← hlx]; exact List.mem_map.2 ⟨x, hx, rfl⟩
        rw [hxs] at h1
        obtain ⟨y, _, e⟩ := List.mem_map.1 h1
        rw [← e]
        exact itemX_ne y
      have hall := allU_le S.its xs
      have hlal : lA.length ≤ 100 := by
        have h1 := congrArg List.length HLA.out
        have := HIl.out
        rw [List.length_map] at h1
        omega
      have HRL5 := hide (HRL.out.kept K5 (by simp))
      have HAl5 := hide (HAl.out.on K5)
      have HPl := hide (rplan_any p (.slice ai mi ci) lA (.slice ax mx cx) lx S.its xs w5 HRL5.out.c0 (lc_of_owns HAl5.out.row.1.1 (HAl5.out.row.lists (by omega))) HLA.out (R5.lists (by omega)) hlx (by omega) (by omega) HLg.out.nd)
      have HR5 := hide R5
      have HK5 := hide K5
      have HLx := hide hlx
      have HNe := hide hxne
      have HX62 := hide hx62
      have HXl := hide hxl
      have HLxl := hide hlxl
      have HAll := hide hall
      clear HIt K5 R5 hlx hxs hx62 hxne hall hm hxl hlxl
      go_wp2_with fail
      refine HPl.out.mono ?_
      rintro ee w6 ⟨a1, m1, c1, a2, m2, c2, rfl, -, ⟨lf, RF, hlf, hfo⟩, K6⟩
      have hs5 := HK5.out.size
      have hs6 := K6.size
      have hwr := HLg.out.kp.size
      have hft : ∀ j, GG f p (.slice ai mi ci) j → j < wr.heap.size := fun j hj => by
        rcases hj with h | h | h
        · exact (HLg.out.lt j h).2
        · rw [h]; exact HPf.out.2.1
        · exact (HAl.out.own j h).1
      have HAf : Hid (Al w w6 (GG f p (.slice ai mi ci)) (.slice a2 m2 c2) lf) := hide (by
        have own : ∀ y ∈ lf, ∀ j, y.1.ownBlock = some j → wr.heap.size ≤ j ∧ j < w6.heap.size := fun y hy j hj => by
          have h1 := hfo y hy
          exact ⟨HR5.out.2 y h1 j hj, by have := sl_lt (HR5.out.1.2 y h1).1 (HNe.out y h1) hj; omega⟩
        refine ⟨⟨⟨owns_rebase RF.1 (fun i hi => Nat.le_trans (Nat.le_trans hwr hs5) (RF.1.own i hi)), RF.2⟩, fun y hy j hj => by have := (own y hy j hj).1; omega⟩, fun j hj => ⟨RF.1.lt hj, fun e => ?_⟩, fun y hy j hj => ⟨(own y hy j hj).2, fun e => ?_⟩⟩
        · have := hft j e; have := RF.1.own j hj; omega
        · have := hft j e; have := (own y hy j hj).1; omega)
      have HLf := hide hlf
      have hm2 : m2 = (newU S.its xs).length := by have := RF.1.len; rw [List.length_map] at this; rw [this, ← hlf, List.length_map]
      have HM2 := hide hm2
      have HL6 := hide (HLg.out.on (HK5.out.trans K6))
      have HRL6 := hide (HRL5.out.kept K6 (by simp))
      have HAl6 := hide (HAl5.out.on K6)
      have HAu6 := hide (HAu.out.on (HK5.out.trans K6))
      have HP6 : Hid (p < w6.heap.size) := hide (by have := HPf.out.2.1; omega)
      have HAd := hide (uadd_cr HL6.out und (400 * k) 62 HLd.out (by have := HMj.out; omega) (.slice ax mx cx) lx xs HLx.out ((HR5.out.kept K6 (by simp)).lists (by have := HLxl.out; omega)) HX62.out (by omega) (by have := HXl.out; omega) (by have := HAll.out; have := HIl.out; have := HXl.out; omega) (by have := HXl.out; omega) (by have := HXl.out; omega))
      clear HPl RF hlf hfo K6 hs5 hs6 hwr hft hm2 HRL5 HAl5 HR5 HK5 HLg HRL HAl HAu HLd
      go_wp2_with fail
      refine HAd.out.mono ?_
      rintro ee w7 ⟨vr, en, rfl, S7, f7, und7, L7, T7, D7, hn7, hsd7, hla7, hdk7, hmb7, hmj7, hcs⟩
      have HL7 := hide L7
      have HRL7 : Hid (RLi w7 p (.slice ai mi ci)) := hide (by
        obtain ⟨U, hU, kU⟩ := T7.kp
        exact HRL6.out.kept kU (fun hm => HPf.out.2.2 (hU p hm)))
      have HAl7 : Hid (Al w w7 (F1 f7 p) (.slice ai mi ci) lA) := hide (HAl6.out.step (stp_f1 T7))
      have HAu7 : Hid (Al w w7 (GG f7 p (.slice ai mi ci)) (.slice aU mU cU) lU) := hide (HAu6.out.step (stp_gg T7))
      have HAf7 : Hid (Al w w7 (GG f7 p (.slice ai mi ci)) (.slice a2 m2 c2) lf) := hide (HAf.out.step (stp_gg T7))
      have HP7 : Hid (w.heap.size ≤ p ∧ p < w7.heap.size ∧ ¬ f7.tot p) := hide ⟨HPf.out.1, Nat.lt_of_lt_of_le HP6.out T7.size, T7.off HP6.out HPf.out.2.2⟩
      have HD7 : Hid (Ld S7.dd S7.its und7 (400 * (k + 1))) := hide (D7.more (by have := HXl.out; omega))
      have HSt7 : Hid (Stn S7.dk S7.n) := hide (by rw [hdk7, hn7]; exact HSt.out)
      have HUs7 : Hid (UsedI S7 uI) := hide (by
        rcases HUs.out with ⟨h1, h2⟩ | ⟨a, h1, h2, h3⟩
        · exact .inl ⟨by rw [hla7]; exact h1, h2⟩
        · exact .inr ⟨a, by rw [hla7]; exact h1, h2, by rw [hn7]; exact h3⟩)
      have HMj7 : Hid (S7.mj ≤ k + 1) := hide (by have := HMj.out; omega)
      have HMb7 : Hid (S7.mb ≤ k) := hide (by rw [hmb7]; exact HMb.out)
      have HCs := hide hcs
      clear HAd L7 T7 D7 hn7 hsd7 hla7 hdk7 hmb7 hmj7 hcs HL6 HRL6 HAl6 HAu6 HAf HPf HP6 HSt HUs HMj HMb
      go_upto_if 92 with fail
      go_cut [16] from 91 to 111 (fun vu wc => ∃ (aU : Option Addr) (mU cU : Nat), vu = .slice aU mU cU ∧ Hid (CrI w l pd pk p (k + 1) k uI aU mU cU wc))
      case first =>
        have hft : ∀ j, F1 f7 p j → j < w7.heap.size := fun j hj => by
          rcases hj with h | h
          · exact (HL7.out.lt j h).2
          · rw [h]; exact HP7.out.2.1
        have HFt := hide hft
        have hlen7 : S.its.length + (newU S.its xs).length ≤ 6 * (k + 1) := by
          have h1 := newU_le S.its xs
          have := HIl.out
          have := HXl.out
          omega
        have HLen7 := hide hlen7
        rcases HCs.out with ⟨rfl, hits, hu⟩ | ⟨rfl, hne, hits, hu⟩
        · have hlf : lf.length ≤ 6 := by
            have h1 := congrArg List.length HLf.out
            have h2 := newU_le S.its xs
            have := HXl.out
            rw [List.length_map] at h1
            omega
          have HLs : Hid (Lists w7 (.slice a2 m2 c2) lf) := hide (HAf7.out.row.lists (by omega))
          have H2z : Hid (a2 = none → c2 = 0) := hide (by
            obtain ⟨a', c', e, -, -, h⟩ := (lc_of_owns HAf7.out.row.1.1 HLs.out).shape
            injection e with e1 e2 e3
            subst e1 e3
            exact h)
          have hbl : (lA.map (·.1)).length + lf.length ≤ 1000000 := by rw [List.length_map]; omega
          have HSz : Hid (w.heap.size ≤ w7.heap.size) := hide HL7.out.kp.size
          have HU7 := hide hu
          have HI7 := hide hits
          have hc7 := HRL7.out.c0
          clear hft hlen7 HCs hits hu
          go_wp2_with (at_builtin; refine wpList_append_list rfl (.tmp 97) (.tmp 98) rfl w.heap.size (.slice ai mi ci) (lA.map (·.1)) rfl HAl7.out.row.1.1 a2 m2 c2 lf rfl HLs.out H2z.out hbl HSz.out ?_; intro a8 m8 c8 w8 R8 S8; have hown : ∀ j ∈ (Value.slice ai mi ci).ownBlock.toList, (Value.slice ai mi ci).ownBlock = some j := (fun j hj => by simpa [Option.mem_toList] using hj); have hp8 : RLi w8 p (.slice ai mi ci) := HRL7.out.kept S8.1 (fun hm => (HAl7.out.own p (hown p hm)).2 (.inr rfl)); have hc8 := hp8.c0; have hf8 := hp8.f 0; refine Hid.out ?_)
          obtain ⟨w9, hw9⟩ : ∃ y, y = w8.setCell ⟨p, 0, none⟩ (.slice a8 m8 c8) := ⟨_, rfl⟩
          have K9 : Kp [p] w8 w9 := by rw [hw9]; exact kp_set w8 p 0 _
          have P9 : RLi w9 p (.slice a8 m8 c8) := by rw [hw9]; exact hp8.set _
          have HC0 : Hid (CrI w l pd pk p (k + 1) k uI aU mU cU w9) := hide (by
            have hown : ∀ j ∈ (Value.slice ai mi ci).ownBlock.toList, (Value.slice ai mi ci).ownBlock = some j := fun j hj => by simpa [Option.mem_toList] using hj
            have R8' : RowV w8 w.heap.size (.slice a8 m8 c8) ((lA ++ lf).map (·.1)) := by rw [List.map_append]; exact R8
            have hs89 := K9.size
            have hs78 := S8.1.size
            have A8 := al_puts HAl7.out HFt.out R8' S8 (fun x hx => by
              obtain ⟨g1, g2, -⟩ := HAf7.out.row.1.2 x hx
              refine ⟨g1, g2, fun j hj => ?_⟩
              obtain ⟨h1, h2⟩ := HAf7.out.its x hx j hj
              exact ⟨HAf7.out.row.2 x hx j hj, h1, fun h => h2 (h.elim .inl (fun h => .inr (.inl h))), fun h => h2 (.inr (.inr h))⟩)
            have hm8 : m8 = S7.its.length := by
              have h1 := R8'.len
              rw [List.length_map, ← List.length_map (f := (·.2)), List.map_append, HLA.out, HLf.out] at h1
              rw [h1, HI7.out, allU_new]
            refine ⟨S7, f7, a8, m8, c8, lA ++ lf, lU, und, (HL7.out.beside S8.1 (fun j hj => ?_)).beside K9 (fun j hj => ?_), by rw [← HU7.out]; exact HD7.out, HSt7.out, HUs7.out, HMj7.out, HMb7.out, ?_, ⟨HP7.out.1, by have := HP7.out.2.1; omega, HP7.out.2.2⟩, P9, A8.step (stp_f1p K9), ?_, hm8, (HAu7.out.step (stp_ggr S8 (fun j hj => R8'.lt hj))).step (stp_ggp K9), HLU.out, HMu.out, HNu.out⟩
            · exact ⟨HAl7.out.row.1.1.own j (hown j hj), fun e => (HAl7.out.own j (hown j hj)).2 (.inl e)⟩
            · obtain rfl : j = p := by simpa using hj
              exact ⟨HP7.out.1, HP7.out.2.2⟩
            · rw [HI7.out, allU_new, List.length_append]; exact HLen7.out
            · rw [List.map_append, HLA.out, HLf.out, HI7.out, allU_new])
          have HW9 := hide hw9
          clear hw9 K9 P9 R8 S8 hown hp8 HRL7 HAl7 HAu7 HL7
          refine hide ?_
          go_wp2_with fail
          go_meet
          case rel =>
            rw [← HW9.out]
            exact ⟨aU, mU, cU, rfl, HC0⟩
        · have h2n : ((m2 : Int) == 0) = false := by
            have h1 : 0 < (newU S.its xs).length := List.length_pos_iff.2 hne
            have := HM2.out
            simp
            omega
          have hml : m2 ≤ 6 := by
            have h1 := newU_le S.its xs
            have := HXl.out
            have := HM2.out
            omega
          rcases hu with ⟨hu1, hu2⟩ | ⟨hu1, hu2⟩
          · obtain ⟨rfl, rfl⟩ := HNu.out hu1
            have hmu : mU = 0 := by rw [HMu.out, hu1]; rfl
            subst hmu
            obtain ⟨g2, rfl, -⟩ := HAf7.out.row.1.1.at 0 (by rw [List.length_map, ← List.length_map (f := (·.2)), HLf.out]; exact List.length_pos_iff.2 hne)
            have HC0 : Hid (CrI w l pd pk p (k + 1) k uI (some ⟨g2, 0, none⟩) m2 c2 w7) := hide ⟨S7, f7, ai, mi, ci, lA, lf, newU S.its xs, HL7.out, by rw [← hu2]; exact HD7.out, HSt7.out, HUs7.out, HMj7.out, HMb7.out, by rw [hits]; have := HIl.out; omega, HP7.out, HRL7.out, HAl7.out, by rw [hits]; exact HLA.out, by rw [hits]; exact HMi.out, HAf7.out, HLf.out, HM2.out, fun e => absurd e hne⟩
            have hq : (binOp .eql 33 (.slice none 0 0) (.slice none 0 0)).run Tryz.prog w7 = .ok (.bool true) w7 := Lib.run_eql_slice_nil w7 _ _ none 0 0 0 0 Tryz.underlying33
            clear hft hlen7 HCs hits hu2 hne
            go_wp2_with fail
            go_meet
            case rel => exact ⟨_, _, _, rfl, HC0⟩
          · obtain ⟨g2, rfl, -⟩ := HAu7.out.row.1.1.at 0 (by rw [List.length_map, ← List.length_map (f := (·.2)), HLU.out]; exact List.length_pos_iff.2 hu1)
            have HC0 : Hid (CrI w l pd pk p (k + 1) k uI (some ⟨g2, 0, none⟩) mU cU w7) := hide ⟨S7, f7, ai, mi, ci, lA, lU, und, HL7.out, by rw [← hu2]; exact HD7.out, HSt7.out, HUs7.out, HMj7.out, HMb7.out, by rw [hits]; have := HIl.out; omega, HP7.out, HRL7.out, HAl7.out, by rw [hits]; exact HLA.out, by rw [hits]; exact HMi.out, HAu7.out, HLU.out, HMu.out, fun e => absurd e hu1⟩
            have hq : (binOp .eql 33 (.slice (some ⟨g2, 0, none⟩) mU cU) (.slice none 0 0)).run Tryz.prog w7 = .ok (.bool false) w7 := Lib.run_eql_slice_nil w7 _ _ (some ⟨g2, 0, none⟩) mU cU 0 0 Tryz.underlying33
            clear hft hlen7 HCs hits hu2 hne
            go_wp2_with fail
            go_meet
            case rel => exact ⟨_, _, _, rfl, HC0⟩
      case rest =>
        obtain ⟨aV, mV, cV, rfl, HC8⟩ := hcut
        clear HL7 HRL7 HAl7 HAu7 HAf7 HP7 HD7 HSt7 HUs7 HMj7 HMb7 HCs HIl HLA HMi HLU HMu HNu hlal
        obtain ⟨S8, f8, a8, m8, c8, lA8, lU8, und8, hLg, hLd, hSt, hUs, hmj, hmb, hil, hpf, hRL, hAl, hlA, hmi, hAu, hlU, hmU, hnU⟩ := HC8.out
        have HLg := hide hLg
        have HLd := hide hLd
        have HMj := hide hmj
        have HMb := hide hmb
        have HIl := hide hil
        have HPf := hide hpf
        have HRL := hide hRL
        have HAl := hide hAl
        have HLA := hide hlA
        have HMi := hide hmi
        have HAu := hide hAu
        have HLU := hide hlU
        have HMu := hide hmU
        have HNu := hide hnU
        have HPb := hide (upub_cr hLg HG.out hSt (by omega) uI hUs)
        clear hLg hLd hSt hUs hmj hmb hil hpf hRL hAl hlA hmi hAu hlU hmU hnU HC8
        go_wp2_with fail
        refine HPb.out.mono ?_
        rintro ee w9 ⟨nS, iS, en9, ar, mr, cr, ap, np, cp, aq, nq, cq, rfl, S9, f9, L9, T9, hst9, hits9, hdd9, hsd9, hmj9, hmb9, hen9⟩
        obtain ⟨g24, hg24⟩ : ∃ g, g = w9.heap.size := ⟨_, rfl⟩
        have HGz : Hid ((w9.alloc (.cells #[.int .i64 0, .slice none 0 0, .int .i64 0, .slice none 0 0, .slice none 0 0] 72)).heap[w9.heap.size]? = some (.cells #[.int .i64 0, .slice none 0 0, .int .i64 0, .slice none 0 0, .slice none 0 0] 72 (0, 0))) := hide (heap_alloc_new w9 _)
        have HL9 := hide L9
        have HT9 := hide T9
        have HSt9 := hide hst9
        have HI9 := hide hits9
        have HD9 := hide hdd9
        have HMj9 := hide hmj9
        have HMb9 := hide hmb9
        have HEn := hide hen9
        have HGg := hide hg24
        clear HPb L9 T9 hst9 hits9 hdd9 hsd9 hmj9 hmb9 hen9 hg24
        go_wp2_with (refine wpList_store_flat rfl 72 (.tmp 24) (.tmp 115) rfl w9.heap.size 0 rfl #[.int .i64 0, .slice none 0 0, .int .i64 0, .slice none 0 0, .slice none 0 0] 72 [.int .i64 nS, .slice ar mr cr, .int .i64 iS, .slice ap np cp, .slice aq nq cq] HGz.out rfl (by simp) Tryz.sgdSize (by simp [Value.oneCell']) #[.int .i64 nS, .slice ar mr cr, .int .i64 iS, .slice ap np cp, .slice aq nq cq] rfl ?_; intro w10 G10 K10a; refine Hid.out ?_)
        have HK10 : Hid (Kp [] w9 w10) := hide (((Kp.refl [] w9).alloc _).then K10a (fun i hi => .inr (by simp at hi; omega)))
        have c24 : w10.cell? ⟨w9.heap.size, 2, none⟩ = some (.int .i64 iS) := by rw [cell_of_row w10 _ 2 _ _ _ G10]; rfl
        rw [← HGg.out] at c24 ⊢
        clear G10 K10a HGz HGg
        refine hide ?_
        go_upto_if 118 with fail
        go_cut [17] from 117 to 126 (fun vi wc => ∃ uJ : Int, vi = .int .i64 uJ ∧ wc = w10 ∧ Hid (UsedI S9 uJ))
        case first =>
          rcases HEn.out with ⟨rfl, hle, hus⟩ | ⟨hor, hus⟩
          · have HU9 := hide hus
            have hdl : decide (iS < uI) = false := decide_eq_false (by omega)
            clear hus hle HEn
            go_wp2_with fail
            go_meet
            case rel => exact ⟨iS, rfl, rfl, HU9⟩
          · have HU9 := hide hus
            rcases hor with rfl | rfl
            · clear hus HEn
              go_wp2_with fail
              go_meet
              case rel => exact ⟨uI, rfl, rfl, HU9⟩
            · clear hus HEn
              go_wp2_with fail
              go_meet
              case rel => exact ⟨uI, rfl, rfl, HU9⟩
        case rest =>
          obtain ⟨uJ, rfl, hwc, HUs9⟩ := hcut
          subst hwc
          clear c24 HEn
          have HP9 : Hid (¬ f9.tot p) := hide (HT9.out.off HPf.out.2.1 HPf.out.2.2)
          have HL10 := hide (HL9.out.on HK10.out)
          have HRL9 : Hid (RLi wc p (.slice a8 m8 c8)) := hide (by
            obtain ⟨U, hU, kU⟩ := HT9.out.kp
            exact (HRL.out.kept kU (fun hm => HPf.out.2.2 (hU p hm))).kept HK10.out (by simp))
          have HAl9 := hide ((HAl.out.step (stp_f1 (p := p) HT9.out)).on HK10.out)
          have HAu9 := hide ((HAu.out.step (stp_gg (p := p) (v := .slice a8 m8 c8) HT9.out)).on HK10.out)
          have HPw : Hid (w.heap.size ≤ p ∧ p < wc.heap.size) := hide ⟨HPf.out.1, by have := HPf.out.2.1; have := HT9.out.size; have := HK10.out.size; omega⟩
          have HD5 : Hid (∀ w', Kp [] wc.drew w' → Kp [] wc w') := hide (fun w' k => (kp_drew wc).trans k)
          have HLw : Hid (∀ w', Kp [] wc.drew w' → Lg w w' l pd pk S9 f9) := hide (fun w' k => HL10.out.on (HD5.out w' k))
          have HCl : Hid (∀ w', Kp [] wc.drew w' → w'.cell? ⟨p, 0, none⟩ = some (.slice a8 m8 c8)) := hide (fun w' k => (HRL9.out.kept (HD5.out w' k) (by simp)).c0)
          have HSz : Hid ((m8 : Int) = S9.its.length) := hide (by rw [HI9.out, HMi.out])
          clear HRL HAl HAu HPf
          go_wp2_with fail
          refine region_grow Tryz.mixed [Is (.pointer (some ⟨l, 0, none⟩)), Is (.int .i64 m8), Is (.pointer (some ⟨p, 0, none⟩)), Is (.pointer (some ⟨p, 0, none⟩)), Is (.pointer (some ⟨p, 0, none⟩)), Is (.slice a8 m8 c8), Is (.int .i64 m8), Is (.bool false)] [[(13, none)], [(127, some 0)], [(15, none)], [(129, some 2)], [(130, some 3)], [(131, some 4)], [(132, some 5)], [(128, some 1), (133, some 6)]] (by kernel_rfl) ?_ ?_ ?_
          · simp only [List.mem_cons, List.not_mem_nil, or_false]
            intro R hR
            rcases hR with rfl | rfl | rfl | rfl | rfl | rfl | rfl | rfl <;> first | exact stable_is _
          · refine steps_cons (fun a w hk hn => ?_) ?_
            · have h13 : a.eval (.tmp 13) = .pointer (some ⟨l, 0, none⟩) := hn.1
              clear hn
              refine wants_plain rfl ?_
              exact grown_move (.tmp 13) rfl h13
            refine steps_cons (fun a w hk hn => ?_) ?_
            · have h127 : a.eval (.tmp 127) = .pointer (some ⟨l, 0, none⟩) := hn.1
              clear hn
              refine wants_plain rfl ?_
              refine grown_call (f := 16) rfl Tryz.func16 (by kernel_rfl) (by kernel_rfl) ?_
              simp only [List.map_toArray, List.map_cons, List.map_nil, h127]
              refine (usize_any (HLw.out w hk) (m8 : Int) HSz.out).mono ?_
              rintro e w' ⟨rfl, rfl⟩
              exact ⟨_, rfl, Kp.refl _ _, rfl⟩
            refine steps_cons (fun a w hk hn => ?_) ?_
            · have h15 : a.eval (.tmp 15) = .pointer (some ⟨p, 0, none⟩) := hn.1
              clear hn
              refine wants_plain rfl ?_
              exact grown_move (.tmp 15) rfl h15
            refine steps_cons (fun a w hk hn => ?_) ?_
            · have h129 : a.eval (.tmp 129) = .pointer (some ⟨p, 0, none⟩) := hn.1
              clear hn
              refine wants_plain rfl ?_
              refine grown_run (v := .pointer (some ⟨p, 0, none⟩)) ?_ (Kp.refl _ _) rfl
              obtain ⟨ρ, hρ, hc, hf, hg⟩ := eval_is a
              rw [hρ] at h129 ⊢
              simp [go_sem, h129]
            refine steps_cons (fun a w hk hn => ?_) ?_
            · have h130 : a.eval (.tmp 130) = .pointer (some ⟨p, 0, none⟩) := hn.1
              clear hn
              refine wants_plain rfl ?_
              refine grown_run (v := .pointer (some ⟨p, 0, none⟩)) ?_ (Kp.refl _ _) rfl
              obtain ⟨ρ, hρ, hc, hf, hg⟩ := eval_is a
              rw [hρ] at h130 ⊢
              simp [go_sem, h130]
            refine steps_cons (fun a w hk hn => ?_) ?_
            · have h131 : a.eval (.tmp 131) = .pointer (some ⟨p, 0, none⟩) := hn.1
              clear hn
              refine wants_plain rfl ?_
              refine grown_run (v := .slice a8 m8 c8) ?_ (Kp.refl _ _) rfl
              have hcell := HCl.out w hk
              obtain ⟨ρ, hρ, hc, hf, hg⟩ := eval_is a
              rw [hρ] at h131 ⊢
              simp [go_sem, h131, hcell]
            refine steps_cons (fun a w hk hn => ?_) ?_
            · have h132 : a.eval (.tmp 132) = .slice a8 m8 c8 := hn.1
              clear hn
              refine wants_plain rfl ?_
              refine grown_run (v := .int .i64 m8) ?_ (Kp.refl _ _) rfl
              obtain ⟨ρ, hρ, hc, hf, hg⟩ := eval_is a
              rw [hρ] at h132 ⊢
              simp [go_sem, h132]
            refine steps_cons (fun a w hk hn => ?_) ?_
            · have h128 : a.eval (.tmp 128) = .int .i64 m8 := hn.1
              have h133 : a.eval (.tmp 133) = .int .i64 m8 := hn.2.1
              clear hn
              refine wants_plain rfl ?_
              refine grown_run (v := .bool false) ?_ (Kp.refl _ _) rfl
              obtain ⟨ρ, hρ, hc, hf, hg⟩ := eval_is a
              rw [hρ] at h128 h133 ⊢
              simp [go_sem, h128, h133]
            exact trivial
          intro W1 hkW1
          rintro _ rfl
          rintro _ rfl
          rintro _ rfl
          rintro _ rfl
          rintro _ rfl
          rintro _ rfl
          rintro _ rfl
          rintro _ rfl
          refine fin_nil ?_
          simp only [Act.put, List.set_cons_zero, List.set_cons_succ, List.setIfInBounds_toArray]
          have HK6 := hide ((kp_drew wc).trans hkW1)
          clear hkW1
          go_wp2_with fail
          go_roundw
          case rel =>
            refine ⟨k + 1, by omega, by omega, by go_num, uJ, aV, mV, cV, rfl, rfl, S9, f9, a8, m8, c8, lA8, lU8, und8, HL10.out.on HK6.out, by rw [HD9.out, HI9.out]; exact HLd.out, HSt9.out, HUs9.out, by rw [HMj9.out]; exact HMj.out, by have := HMb9.out; have := HMb.out; omega, by rw [HI9.out]; exact HIl.out, ⟨HPw.out.1, by have := HPw.out.2; have := HK6.out.size; omega, HP9.out⟩, HRL9.out.kept HK6.out (by simp), HAl9.out.on HK6.out, by rw [HI9.out]; exact HLA.out, by rw [HI9.out]; exact HMi.out, HAu9.out.on HK6.out, HLU.out, HMu.out, HNu.out⟩
          case measure => simp [intOf]; omega
    · go_upto_region 13 with fail
      go_cut [71] from 64 to 70 (fun s wc => s = .bool false ∧ wc = wr)
      case first =>
        by_cases hl1 : k < N
        · have hl1' : (k : Int) < (N : Int) := by omega
          have hl2' : ¬ (k : Int) < 10 := by omega
          have hd1 : decide ((k : Int) < (N : Int)) = true := decide_eq_true hl1'
          have hd2 : decide ((k : Int) < 10) = false := decide_eq_false hl2'
          go_wp2_with fail
          go_meet
          exact ⟨rfl, rfl⟩
        · have hl1' : ¬ (k : Int) < (N : Int) := by omega
          have hd1 : decide ((k : Int) < (N : Int)) = false := decide_eq_false hl1'
          go_wp2_with fail
          go_meet
          exact ⟨rfl, rfl⟩
      case rest =>
        obtain ⟨rfl, hwc⟩ := hcut
        subst wc
        have HCd := hide (ds_crashD HLg.out.ds pc rfl)
        clear HWa HWb HC hlm
        go_wp2_with fail
        refine HCd.out.mono ?_
        rintro ee w5 ⟨rfl, f5, D5, T5⟩
        have HCk := hide (ds_crashK D5 pe rfl)
        have HT5 := hide T5
        clear HCd D5 T5
        go_wp2_with fail
        refine HCk.out.mono ?_
        rintro ee w6 ⟨rfl, f6, D6, T6⟩
        have T56 : LSt wr f w6 f6 := Stp.trans HT5.out T6
        have HRL6 : Hid (RLi w6 p (.slice ai mi ci)) := hide (by
          obtain ⟨U, hU, kU⟩ := T56.kp
          exact HRL.out.kept kU (fun hm => HPf.out.2.2 (hU p hm)))
        have HAl6 := hide (HAl.out.step (stp_f1 (p := p) T56))
        have HAu6 := hide (HAu.out.step (stp_gg (p := p) (v := .slice ai mi ci) T56))
        have HD6 := hide D6
        have HP6 : Hid (p < w6.heap.size ∧ ¬ f6.tot p) := hide ⟨Nat.lt_of_lt_of_le HPf.out.2.1 T56.size, T56.off HPf.out.2.1 HPf.out.2.2⟩
        have HFew : Hid ((S.its ++ und).length ≤ 256) := hide HLd.out.few
        have HSd := hide (xseed_any 4 w6)
        clear HCk HT5 D6 T6 T56 HRL HAl HAu HPf HLg
        go_wp2_with fail
        refine HSd.out.mono ?_
        rintro ee w7 ⟨as7, ms7, cs7, rfl, R7, K7⟩
        have D7 := HD6.out.on K7
        have hno : ∀ i, (Value.slice as7 ms7 cs7).ownBlock = some i → ¬ f6.tot i := fun i hi ⟨a, ha⟩ => by have := (HD6.out.ok.rng a i ha).2; have := R7.own i hi; omega
        obtain ⟨rs, at2, its', hdn, har, hop, hgt, hor, h256, hrB, hrn, hlr, hbl⟩ := ld_crash HLd.out pc
        obtain ⟨m, hm, hR⟩ := stn_crash HSt.out pe
        obtain ⟨at_, hopk⟩ := hR.opn
        have HO := hide (uopen_ok (dd' := (S.dd.crash pc).opn) (dk' := upD m 0) (n := m) (.slice as7 ms7 cs7) (seedX 4) R7.sl (seedX_bs 4) (seedX_len 4) hno D7.ok D7.d hdn (by omega) D7.k hR.down hR.arm rfl hR.le hopk hR.cut rfl hop rfl hgt h256 hrB (by omega) (by omega))
        have hum : uI < m := by
          rcases HUs.out with ⟨-, h2⟩ | ⟨a, -, h2, h3⟩ <;> omega
        have HM16 : Hid (m ≤ 16) := hide hR.le
        have HUm := hide hum
        have HOr := hide hor
        have HK7 := hide K7
        clear HSd R7 K7 D7 hno hdn har hop hgt hor h256 hrB hrn hlr hbl hm hR hopk hum HD6 HLd HSt HUs
        go_wp2_with fail
        refine HO.out.mono ?_
        rintro ee w8 ⟨l2, rfl, f8, L8, T8⟩
        have HK78 : Hid (Stp f6.tot w7 w8 f8.tot) := hide T8
        have HL8 := hide L8
        obtain ⟨xk, hxk⟩ : ∃ x, x = 16 - (m : Int) := ⟨_, rfl⟩
        have HKs := hide (ukeys_any L8 xk hxk)
        have hw16 : IntKind.i64.wrap (16 - xk) = (m : Int) := by have := HM16.out; rw [hxk]; simp [IntKind.wrap, IntKind.signed, IntKind.bits]; omega
        have hdm : decide ((m : Int) ≤ uI) = false := decide_eq_false (by have := HUm.out; omega)
        clear HO L8 T8 hxk
        go_wp2_with fail
        refine HKs.out.mono ?_
        rintro ee wk ⟨rfl, hwk⟩
        subst wk
        have HRL8 : Hid (RLi w8 p (.slice ai mi ci)) := hide (by
          obtain ⟨U, hU, kU⟩ := HK78.out.kp
          exact (HRL6.out.kept HK7.out (by simp)).kept kU (fun hm => HP6.out.2 (hU p hm)))
        have HAl8 := hide ((HAl6.out.on HK7.out).step (stp_f1 (p := p) HK78.out))
        have HAu8 := hide ((HAu6.out.on HK7.out).step (stp_gg (p := p) (v := .slice ai mi ci) HK78.out))
        have hc8 := HRL8.out.c0
        obtain ⟨nI, hnI⟩ : ∃ n, n = its'.length := ⟨_, rfl⟩
        have HSz := hide (usize_any HL8.out (nI : Int) (by rw [hnI]))
        have HNi := hide hnI
        clear HKs HRL6 HAl6 HAu6 HP6 HK7 HK78 hnI
        go_upto_region 37 with fail
        go_cut [178] from 166 to 177 (fun s wc => s = .bool false ∧ wc = w8)
        case first =>
          by_cases he : nI = mi
          · subst he
            go_wp2_with fail
            refine HSz.out.mono ?_
            rintro ee wz ⟨rfl, hwz⟩
            subst wz
            go_wp2_with fail
            go_meet
            exact ⟨rfl, rfl⟩
          · have hsum : nI = mi + mU := by
              rcases HOr.out with h | h
              · exact absurd (by rw [HNi.out, h, HMi.out]) he
              · rw [HNi.out, h, List.length_append, HMi.out, HMu.out]
            have hle : nI ≤ 256 := by
              have := HFew.out
              rw [List.length_append, ← HMi.out, ← HMu.out] at this
              omega
            have hne : ((nI : Int) == (mi : Int)) = false := by simp; omega
            have hws : IntKind.i64.wrap ((mi : Int) + (mU : Int)) = (nI : Int) := by simp [IntKind.wrap, IntKind.signed, IntKind.bits]; omega
            go_wp2_with fail
            refine HSz.out.mono ?_
            rintro ee wz ⟨rfl, hwz⟩
            subst wz
            go_wp2_with fail
            refine HSz.out.mono ?_
            rintro ee wz ⟨rfl, hwz⟩
            subst wz
            go_wp2_with fail
            go_meet
            exact ⟨rfl, rfl⟩
        case rest =>
          obtain ⟨rfl, hwc⟩ := hcut
          subst wc
          have hlA : lA.length = S.its.length := by rw [← HLA.out, List.length_map]
          have hlU : lU.length = und.length := by rw [← HLU.out, List.length_map]
          have hfew := HFew.out
          rw [List.length_append] at hfew
          have HnL : Hid (nI ≤ 256) := hide (by
            rcases HOr.out with h | h
            · rw [HNi.out, h]; omega
            · rw [HNi.out, h, List.length_append]; exact hfew)
          have HlA : Hid (lA.length ≤ 256) := hide (by omega)
          have HlU : Hid (lU.length ≤ 256) := hide (by omega)
          have HLsA := hide (HAl8.out.row.lists (by omega))
          have HLsU := hide (HAu8.out.row.lists (by omega))
          have HzA : Hid (ai = none → ci = 0) := hide (by
            obtain ⟨a', c', e, -, -, h⟩ := (lc_of_owns HAl8.out.row.1.1 HLsA.out).shape
            injection e with e1 e2 e3
            subst e1 e3
            exact h)
          have HzU : Hid (aU = none → cU = 0) := hide (by
            obtain ⟨a', c', e, -, -, h⟩ := (lc_of_owns HAu8.out.row.1.1 HLsU.out).shape
            injection e with e1 e2 e3
            subst e1 e3
            exact h)
          have HLsm : Hid (∀ y ∈ lA ++ lU, Sl w8 y.1 y.2) := hide (fun y hy => by
            rcases List.mem_append.1 hy with hy | hy
            · exact (HAl8.out.row.1.2 y hy).1
            · exact (HAu8.out.row.1.2 y hy).1)
          have HPt : Hid (∀ q, q < nI → ∃ (h : q < (lA ++ lU).length) (h2 : q < its'.length), ((lA ++ lU)[q]).2 = its'[q]) := hide (fun q hq => by
            have h2 : q < its'.length := by rw [← HNi.out]; exact hq
            have e : (lA ++ lU).map (·.2) = S.its ++ und := by rw [List.map_append, HLA.out, HLU.out]
            have e2 : (S.its ++ und)[q]? = some its'[q] := by
              rw [← List.getElem?_eq_getElem h2]
              rcases HOr.out with h | h
              · have h3 : q < S.its.length := by rw [← h]; exact h2
                rw [List.getElem?_append_left h3, h]
              · rw [h]
            rw [← e, List.getElem?_map] at e2
            cases e3 : (lA ++ lU)[q]? with
            | none => rw [e3] at e2; cases e2
            | some y =>
              rw [e3] at e2
              obtain ⟨h4, h5⟩ := List.getElem?_eq_some_iff.1 e3
              refine ⟨h4, h2, ?_⟩
              rw [h5]
              exact Option.some.inj e2)
          have HK1 : Hid (Kp [] w8 (w8.alloc (.cells #[] 22))) := hide ((Kp.refl [] _).alloc _)
          have hrow0 : RowV (w8.alloc (.cells #[] 22)) w8.heap.size (.slice (some ⟨w8.heap.size, 0, none⟩) 0 0) [] := World.ownsRow_made w8 #[] 0 (Nat.le_refl _) (by simp [maxLen]) rfl
          have HRow0 := hide hrow0
          have hc9 := (HRL8.out.kept HK1.out (by simp)).c0
          clear hlA hlU hfew hrow0 hc8 HSz
          go_wp2_with (first
            | (at_builtin; refine wpList_append_list rfl (.tmp 179) (.tmp 183) rfl w8.heap.size (.slice (some ⟨w8.heap.size, 0, none⟩) 0 0) [] rfl HRow0.out ai mi ci lA rfl (HLsA.out.kept HK1.out) HzA.out (by have := HlA.out; simp; omega) HK1.out.size ?_; intro a9 m9 c9 w9 R9 S9; rw [List.nil_append] at R9; have HK9 : Hid (Kp [] w8 w9) := hide (HK1.out.then S9.1 (fun i hi => .inr (HRow0.out.own i (by simpa [Option.mem_toList] using hi)))); have HR9 := hide R9; clear R9 S9)
            | (at_builtin; refine wpList_append_list rfl (.tmp 184) (.tmp 185) rfl w8.heap.size (.slice a9 m9 c9) _ rfl HR9.out aU mU cU lU rfl (HLsU.out.kept HK9.out) HzU.out (by have := HlA.out; have := HlU.out; rw [List.length_map]; omega) HK9.out.size ?_; intro aW mW cW w10 R10 S10; rw [← List.map_append] at R10; have HK10 : Hid (Kp [] w8 w10) := hide (HK9.out.then S10.1 (fun i hi => .inr (HR9.out.own i (by simpa [Option.mem_toList] using hi)))); have HR10 := hide R10; clear R10 S10))
          go_loopw [30] (fun i wq => ∃ q : Nat, q ≤ nI ∧ i = .int .i64 q ∧ Hid (Kp [] w10 wq)) (fun i _ => nI - (intOf i).toNat)
          case atStart => exact ⟨0, by omega, rfl, hide (Kp.refl _ _)⟩
          case round =>
            obtain ⟨q, hq, rfl, HKq⟩ := hrel
            have HKr := hide (HK10.out.trans HKq.out)
            have HL := hide (HL8.out.on HKr.out)
            have HSz := hide (usize_any HL.out (nI : Int) (by rw [HNi.out]))
            have hmW : mW = (lA ++ lU).length := by have := HR10.out.len; rw [List.length_map] at this; exact this
            have HMw := hide hmW
            have hnL := HnL.out
            clear hmW
            by_cases hqlt : q < nI
            · have hq' : (q : Int) < (nI : Int) := by omega
              have hdq : decide ((q : Int) < (nI : Int)) = true := decide_eq_true hq'
              obtain ⟨hq2, hq3, he⟩ := HPt.out q hqlt
              have HEn := hide (uentry_ok HL.out q hq3 its'[q] rfl)
              obtain ⟨X, hX⟩ : ∃ X, X = its'[q] := ⟨_, rfl⟩
              rw [← hX] at HEn he
              obtain ⟨nX, hnX⟩ : ∃ n, n = X.length := ⟨_, rfl⟩
              rw [← hnX] at HEn
              obtain ⟨gW, hgW, hcW⟩ := HR10.out.at q (by rw [List.length_map]; exact hq2)
              have hSy := HLsm.out _ (List.getElem_mem hq2)
              rw [List.getElem_map] at hcW
              rw [he] at hSy
              obtain ⟨ay, cy, ey, -⟩ := id hSy
              rw [← hnX] at ey
              rw [ey] at hcW hSy
              subst hgW
              have HCw := hide hcW
              have HSy := hide hSy
              have HXn := hide hnX
              have hqW : q < mW := by rw [HMw.out]; exact hq2
              have hqW' : (q : Int) < (mW : Int) := by omega
              clear hX hnX hcW hSy ey he hq2 hq3
              go_wp2_with fail
              refine HSz.out.mono ?_
              rintro ee wz ⟨rfl, hwz⟩
              subst wz
              clear HSz
              go_wp2_with fail
              refine HEn.out.mono ?_
              rintro ee w11 ⟨c11, rfl, S11, K11, -⟩
              have HK11 := hide ((HKq.out.trans K11).trans (kp_drew w11))
              have d2 := HK11.out.cell HCw.out (by simp)
              have v1 := (S11.kept (kp_drew w11) (by simp)).conv (P := Tryz.prog) 22 9 5 Tryz.underlying22 Tryz.underlying5 Tryz.underlying9
              have v2 := (HSy.out.kept (HK10.out.trans HK11.out) (by simp)).conv (P := Tryz.prog) 22 9 5 Tryz.underlying22 Tryz.underlying5 Tryz.underlying9
              obtain ⟨SS, hSS⟩ : ∃ S, S = strOfNums X := ⟨_, rfl⟩
              rw [← hSS] at v1 v2
              clear HEn S11 K11 hSS
              go_wp2_with fail
              refine region_read Tryz.mixed (by kernel_rfl) ?_
              repeat (first | go_big_quiet_skip | (go_big_quiet_want; go_big_quiet_op; go_big_quiet_on))
              refine wpQuiet_nil ?_
              go_wp2_with fail
              go_roundw
              case rel => exact ⟨q + 1, by omega, by go_num, HK11⟩
              case measure => simp [intOf]; omega
            · obtain rfl : q = nI := by omega
              have hdq : decide ((q : Int) < (q : Int)) = false := decide_eq_false (by omega)
              have HKn := hide (uknown_any wr (HG.out.kept (HL8.out.kp.trans HKr.out) (by simp)))
              go_wp2_with fail
              refine HSz.out.mono ?_
              rintro ee wz ⟨rfl, hwz⟩
              subst wz
              clear HSz
              go_wp2_with fail
              refine HKn.out.mono ?_
              rintro ee w14 ⟨rfl, K14⟩
              have HK14 := hide ((HL8.out.kp.trans HKr.out).trans K14)
              clear HKn K14
              go_wp2_with fail
              go_ret
              exact ⟨rfl, HK14.out.below (Nat.le_refl _) (by simp)⟩
set_option maxRecDepth 100000 in
theorem lifted (os : Os) (started : os.Started) (H : Type) (enc : TypeId × Value → H) :
    ReturnsInHanded {} Tryz.checked os 7 .any (fun w args => (Rows.ledgerCrashesSpec.pre enc Tryz.prog Tryz.f7 [] false w args ∧ laidMetH Tryz.prog laid1 w) ∧ sizedMet enc Tryz.prog Tryz.f7 (OpenSpec.ofChange Rows.ledgerCrashesSpec) false w args) (Rows.ledgerCrashesSpec.post enc Tryz.prog Tryz.f7 false true false false) := by
  refine returnsInHanded_of_change_and (C := Tryz.checked) (X := fun w _ => laidMetH Tryz.prog laid1 w) (fun _ _ _ hh h => h.of_heap hh) own started (by kernel_rfl) Tryz.func7
    (ChangeSpec.witness_shaped (enc := enc) (C := Tryz.checked) (os := os) (X := fun w _ => laidMetH Tryz.prog laid1 w) false (World.doorLaid Tryz.prog 400 os) #[.slice none 0 0, .int .i64 0, .int .i64 0, .int .i64 0, .int .i64 0] 8 rfl (World.shaped_of_RefB (by kernel_rfl) (by kernel_rfl)) (by kernel_rfl) (by kernel_rfl) (by kernel_rfl) (door_met os _)) ?_
  intro W base args ds gs before hval0 hW hcnd hsz0 hL _
  have hG := gl_of_laid hL
  have hval : ∀ (j : Nat) t v, Tryz.f7.params[j]? = some t → args[j]? = some v → Value.okWide Tryz.prog W .any base t v := hval0
  have hW' := hW
  obtain ⟨p, q, hA0, hV, rfl, hfz, hnd⟩ := hW
  have hA : DataW.TrodAll enc Tryz.prog W 0 (fun _ => true) true Tryz.f7.params.toList args.toList ds p := hA0
  rw [Tryz.params7] at hA hval
  obtain ⟨v0, vs0, d0, ds0, p0, q0, hargs, rfl, rfl, h0, r0⟩ := trodAll_cons hA
  obtain ⟨v1, vs1, d1, ds1, p1, q1, rfl, rfl, rfl, h1, r1⟩ := trodAll_cons r0
  obtain ⟨v2, vs2, d2, ds2, p2, q2, rfl, rfl, rfl, h2, r2⟩ := trodAll_cons r1
  obtain ⟨v3, vs3, d3, ds3, p3, q3, rfl, rfl, rfl, h3, r3⟩ := trodAll_cons r2
  obtain ⟨v4, vs4, d4, ds4, p4, q4, rfl, rfl, rfl, h4, r4⟩ := trodAll_cons r3
  obtain ⟨rfl, rfl, rfl⟩ := trodAll_nil r4
  obtain rfl : args = #[v0, v1, v2, v3, v4] := by cases args; simp_all
  obtain ⟨rfl, rfl⟩ := trodVars_none hV
  obtain ⟨a0, len0, cap0, rfl⟩ := okWide_slice Tryz.underlying42 (hval 0 42 v0 rfl rfl)
  have k0 := h0
  have lt0 : ∀ x ∈ p0, x.block < W.heap.size := by obtain ⟨m, hm⟩ := k0; exact DataW.trod_lt m _ _ _ hm
  obtain ⟨l0, s0⟩ : ∃ l, Intss W (.slice a0 len0 cap0) l := by
    obtain ⟨fuel, hf⟩ := h0
    exact intss_of_trod (by simpa [Value.cells] using hf)
  obtain ⟨a1, rfl, rfl, rfl, w1⟩ := open_int Tryz.underlying3 (hval 1 3 v1 rfl rfl) h1
  obtain ⟨a2, rfl, rfl, rfl, w2⟩ := open_int Tryz.underlying3 (hval 2 3 v2 rfl rfl) h2
  obtain ⟨a3, rfl, rfl, rfl, w3⟩ := open_int Tryz.underlying3 (hval 3 3 v3 rfl rfl) h3
  obtain ⟨a4, rfl, rfl, rfl, w4⟩ := open_int Tryz.underlying3 (hval 4 3 v4 rfl rfl) h4
  clear hA0 hval0
  refine (walk (.slice a0 len0 cap0) l0 a1 a2 a3 a4 W hG s0 (bounds_i64 w1) (bounds_i64 w2) (bounds_i64 w3) (bounds_i64 w4)).mono fun e W' ⟨he, bel⟩ => ?_
  subst he
  exact ⟨_, rfl, _, _, _, [], _, [], hW', trodAll_mk1 (shut_bool Tryz.underlying4 _), (trodAll_cons_mk (Below.trod laidOut (by kernel_rfl) (of_decide_eq_true (by kernel_rfl)) k0 bel lt0) (trodAll_cons_mk (shut_int Tryz.underlying3 w1) (trodAll_cons_mk (shut_int Tryz.underlying3 w2) (trodAll_cons_mk (shut_int Tryz.underlying3 w3) (trodAll_cons_mk (shut_int Tryz.underlying3 w4) trodAll_mk0))))), rfl, bel.frame _, fun h => by cases h⟩
theorem over : Rows.ledgerCrashesRow.holds Tryz.pinned (OpenSpec.ofChange Rows.ledgerCrashesSpec) :=
  OpenClaim.holds_of_wide 7 Tryz.f7 rfl rfl rfl rfl rfl rfl rfl ⟨rfl, rfl, rfl, rfl, rfl⟩ rfl rfl rfl rfl rfl (by kernel_rfl) Tryz.func7 (by kernel_rfl)
    (of_decide_eq_true (by kernel_rfl)) (by unfold Func.isWrapper; first | (rw [if_pos (by decide +kernel)]; kernel_rfl) | (rw [if_neg (by decide +kernel)]; exact ⟨rfl, rfl⟩))
    (fun os started H enc _ => lifted os started H enc)
end Go.Proofs.YtillhpgdlmeajaaGreatDoor.ledgerCrashes
namespace Go.Proofs.YtillhpgdlmeajaaGreatDoor
/-- The given statement: the tied card. -/
theorem LedgerCrashes_holds : Rows.LedgerCrashesCardSaid :=
  Claim7.holds_tied_plain_at .later [] [.data] true Rows.ledgerCrashesCard.stood.harness false
    ledgerCrashes.over (fun _ h => by cases h) (by kernel_rfl) (fun _ h => by cases h) ledgerCrashes_row_tie rfl ⟨rfl, rfl⟩ (by kernel_rfl) rfl
    (fun f fn hf hfn => by
      obtain rfl : f = 7 := Option.some.inj ((show Tryz.prog.funcNamed "broadsheet/broadsheetlaw15.LedgerCrashes" = some 7 by kernel_rfl).symm.trans hf) |>.symm
      obtain rfl : fn = Tryz.f7 := (Option.some.inj (Tryz.func7.symm.trans hfn)).symm
      exact ⟨by kernel_rfl, fun j t ht => by
        rw [Tryz.params7] at ht
        have hm : t ∈ ([42, 3, 3, 3, 3] : List TypeId) := by simpa using Array.mem_of_getElem? ht
        have hall : (([42, 3, 3, 3, 3] : List TypeId).all fun u => !Tryz.prog.wantsStandIn u) = true := by kernel_rfl
        exact (show Tryz.prog.wantsStandIn t = false by simpa using List.all_eq_true.1 hall t hm)⟩)
    (by kernel_rfl)
#print axioms LedgerCrashes_holds
end Go.Proofs.YtillhpgdlmeajaaGreatDoor
