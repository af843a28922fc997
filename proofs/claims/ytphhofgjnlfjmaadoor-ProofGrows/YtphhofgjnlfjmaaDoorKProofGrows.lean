/-
  The statement ProofGrowsCardSaid: for all numbers and bytes, and all lists of bytes, the law function ProofGrows returns true and leaves its arguments as they were; the table hash.roundWords starts as the program's text lays it (tied). No other condition.
-/
import Derived.Test.YtphhofgjnlfjmaaDoorKPKnown
import Derived.Test.YtphhofgjnlfjmaaDoorKPLds
import Derived.Test.YtphhofgjnlfjmaaDoorKPRefP
import Derived.Test.YtphhofgjnlfjmaaDoorKLStep
import Derived.Test.YtphhofgjnlfjmaaDoorKLMore
import Derived.Test.YtphhofgjnlfjmaaDoorTie
import Derived.Test.YtphhofgjnlfjmaaDoorCards
import Derived.SevenTiedAt
import Derived.Deep.Cut
import Derived.Deep.CutRange
import Derived.Deep.CutBlock
import Derived.Deep.RegionLaw
namespace Go.Proofs.YtphhofgjnlfjmaaDoor.proofGrows
open Go.ChangeShapes Go.WideShapes Go.ChangeAt Go.RowKit
open Go.Deep
open Go.Proofs.YtphhofgjnlfjmaaDoor
set_option linter.unusedVariables false

/-- what the struct holds behind the switch, whatever was done to it. -/
def Behind (w1 : World) (gp : Nat) (wc : World) : Prop :=
  ∃ (i' n' : Int) (ps' : List (List Int)) (ao : Option Addr) (m c : Nat), wc.heap[gp]? = some (.cells #[.int .i64 i', .int .i64 n', .slice ao m c] 39 (0, 0)) ∧ LcM ps' (.slice ao m c) wc ∧ n' ≤ 9223372036854775807 ∧ Kp [] w1 wc
theorem lgrows_sb (v vx vr : Value) (i n : Int) (ps : List (List Int)) (rt : List Int) (w : World) (hV : TV w v i n ps) (hS : SbT vx w) (hT : Sl w vr rt) (hn : n ≤ 9223372036854775807) (hG : Gl w) :
    Calls Tryd.prog 22 #[v, vx, vr] w fun e w' => e = .returned (.bool true) ∧ Kp [] w w' := by
  obtain ⟨x, h1, h2⟩ := hS
  exact lgrows_any v vx vr i n ps x rt w hV h1 h2 hT hn hG
theorem bs32 : Bs (List.replicate 32 (0 : Int)) := fun b hb => by rw [List.eq_of_mem_replicate hb]; omega

set_option maxRecDepth 100000 in
set_option maxHeartbeats 8000000 in
theorem walk (n i how ax tn : Int) (v5 : Value) (l5 : List (Value × List Int)) (sa sb : Int) (v8 : Value) (bs8 : List Int) (v9 : Value) (bs9 : List Int) (w : World) (hG : Gl w) (hn : -9223372036854775808 ≤ n ∧ n ≤ 9223372036854775807) (hi : -9223372036854775808 ≤ i ∧ i ≤ 9223372036854775807) (hhow : -9223372036854775808 ≤ how ∧ how ≤ 9223372036854775807) (hax : -9223372036854775808 ≤ ax ∧ ax ≤ 9223372036854775807) (htn : 0 ≤ tn ∧ tn ≤ 255) (hL5 : Lists w v5 l5) (hsa : -9223372036854775808 ≤ sa ∧ sa ≤ 9223372036854775807) (hsb : -9223372036854775808 ≤ sb ∧ sb ≤ 9223372036854775807) (hS8 : Sl w v8 bs8) (hB8 : Bs bs8) (hS9 : Sl w v9 bs9) (hB9 : Bs bs9) :
    Calls Tryd.prog 6 #[.int .i64 n, .int .i64 i, .int .i64 how, .int .i64 ax, .int .u8 tn, v5, .int .i64 sa, .int .i64 sb, v8, v9] w fun e w' => e = .returned (.bool true) ∧ Below w.heap.size w w' := by
  have HG := hide hG
  have HB5 := hide hL5.bs
  have HL5 := hide hL5
  have HS8 := hide hS8
  have HB8 := hide hB8
  have HS9 := hide hS9
  have HB9 := hide hB9
  have HAX := hide hax
  have HSA := hide hsa
  have HSB := hide hsb
  have HI := hide hi
  have HC := hide (within_any n 1 80 w (by omega) (by omega) (by omega) hn)
  obtain ⟨a5, c5, e5, -⟩ := hL5
  obtain ⟨n5, hn5⟩ : ∃ m, m = l5.length := ⟨_, rfl⟩
  rw [← hn5] at e5
  subst e5
  obtain ⟨a8, c8, e8, -⟩ := hS8
  obtain ⟨n8, hn8⟩ : ∃ m, m = bs8.length := ⟨_, rfl⟩
  rw [← hn8] at e8
  subst e8
  obtain ⟨a9, c9, e9, -⟩ := hS9
  obtain ⟨n9, hn9⟩ : ∃ m, m = bs9.length := ⟨_, rfl⟩
  rw [← hn9] at e9
  subst e9
  have HTN := hide htn
  clear hG hB8 hn hi hax hsa hsb htn hn5 hn8 hhow hB9 hn9
  go_enter Tryd.func6, Tryd.ntmps6
  go_wp2_with fail
  refine (unhide HC).mono ?_
  rintro ee w9 ⟨xn, rfl, hx0, hx1, hw⟩
  subst w9
  obtain ⟨N, rfl⟩ := Int.eq_ofNat_of_zero_le (by omega : 0 ≤ xn)
  have hN1 : 1 ≤ N := by omega
  have hN80 : N ≤ 80 := by omega
  clear HC hx0 hx1
  have HC := hide (kl_any N w (by omega))
  go_wp2_with fail
  refine (unhide HC).mono ?_
  rintro ee w1 ⟨al, cl, rfl, L1, K1⟩
  obtain ⟨ls, hls⟩ : ∃ ls, ls = kleavesP N := ⟨_, rfl⟩
  rw [← hls] at L1
  have hll : ls.length = N := by rw [hls, kleavesP_len]
  have h32 : ∀ x ∈ ls, x.length = 32 := by rw [hls]; exact kleavesP_all N
  have hml : ∀ x ∈ ls, x.length ≤ 1000 := fun x hx => by have := h32 x hx; omega
  have HK1 := hide K1
  have HL1 := hide L1
  have HNL := hide hll
  have H32 := hide h32
  have HML := hide hml
  have hG1 : Gl w1 := (unhide HG).kept K1 (by simp)
  have HG1 := hide hG1
  clear HC hls K1 L1 hll h32 hml hG1
  have HC := hide (within_any i 0 (N : Int) w1 (by omega) (by omega) (by omega) (unhide HI))
  go_wp2_with fail
  refine (unhide HC).mono ?_
  rintro ee w9 ⟨xk, rfl, hk0, hk1, hw⟩
  subst w9
  obtain ⟨k, rfl⟩ := Int.eq_ofNat_of_zero_le hk0
  have hkN : k ≤ N := by omega
  have G_ := heap_alloc_new w1 (.cells #[.int .i64 0, .int .i64 0, .slice none 0 0] 39)
  clear HC hk0 hk1
  go_wp2_with (refine wpList_store_tri triG rfl (.tmp 23) (.tmp 39) rfl w1.heap.size rfl _ _ _ _ _ _ G_ rfl ⟨rfl, rfl, rfl⟩ ?_; intro w3 G3 K3; refine Hid.out ?_)
  have HK3 : Hid (Kp [] w1 w3) := ((Kp.refl [] w1).alloc _).then K3 (by simp)
  obtain ⟨gp, hgp⟩ : ∃ g, g = w1.heap.size := ⟨_, rfl⟩
  rw [← hgp] at G3 ⊢
  have HGP : Hid (w1.heap.size ≤ gp) := hide (by omega)
  have hgp3 : gp < w3.heap.size := (Array.getElem?_eq_some_iff.1 G3).1
  have HG3 := hide G3
  clear G_ K3 hgp G3
  obtain ⟨ps, hps⟩ : ∃ ps, ps = growP k ls := ⟨_, rfl⟩
  have hpl : ps.length ≤ 11 := by rw [hps]; exact growP_1000 (by rw [unhide HNL]; omega) (by rw [unhide HNL]; exact hkN)
  have HP32 : Hid (∀ x ∈ ps, x.length = 32) := by rw [hps]; exact growP_32 (unhide H32) (by rw [unhide HNL]; exact hkN)
  have HC := hide (rgrow_any _ ls k ps w3 hps (by rw [unhide HNL]; exact hkN) (by rw [unhide HNL]; omega) ((unhide HL1).kept (unhide HK3)) (unhide HML))
  clear hps
  refine hide ?_
  go_wp2_with fail
  refine (unhide HC).mono ?_
  rintro ee w4 ⟨ad, M, cd, rfl, A4⟩
  have hM : M = ps.length := A4.len
  have HM := hide hM
  rw [← hM] at hpl
  have G4 := A4.kp.heap (unhide HG3) (by simp)
  have HG4 := hide G4
  have hgp4 : gp < w4.heap.size := (Array.getElem?_eq_some_iff.1 G4).1
  have HK4 := hide ((unhide HK3).trans A4.kp)
  have HSRC : Hid (∀ wr, Kp [gp] w4 wr → LcM ps (.slice ad M cd) wr) := fun wr kk => A4.off (by omega) (nob1 hgp3 G4) kk
  clear HC A4 G4 hM HG3
  go_wp2_with fail
  go_loopw [44] (fun j wr => ∃ (t m cc : Nat) (ao : Option Addr), t ≤ M ∧ j = .int .i64 t ∧ AccP [gp] w4 (ps.take t) (.slice ao m cc) wr ∧ wr.heap[gp]? = some (.cells #[.int .i64 k, .int .i64 N, .slice ao m cc] 39 (0, 0))) (fun j _ => M - (intOf j).toNat)
  case atStart => exact ⟨0, 0, 0, none, by omega, rfl, ⟨[], ⟨⟨rfl, .inl ⟨rfl, rfl⟩⟩, fun x hx => by cases hx⟩, rfl, Kp.refl _ _⟩, unhide HG4⟩
  case round =>
    clear HG4
    obtain ⟨t, m, cc, ao, ht, rfl, Ar, Gr⟩ := hrel
    have HA := hide Ar
    have HGr := hide Gr
    have HSr := hide (unhide HSRC wr Ar.kp)
    clear Ar Gr
    by_cases hlt : t < M
    · have hlt2 : (t : Int) < (M : Int) := by omega
      have htl : t < ps.length := by rw [← unhide HM]; exact hlt
      have hx := List.getElem?_eq_getElem htl
      have hE := List.take_succ_eq_append_getElem htl
      have hx32 := unhide HP32 _ (List.getElem_mem htl)
      obtain ⟨X, hX⟩ : ∃ X, X = ps[t] := ⟨_, rfl⟩
      rw [← hX] at hx hE hx32
      obtain ⟨-, b, off, u, rfl, hcx, hSx, hBx⟩ := (unhide HSr).at t X hx
      have HSx := hide hSx
      have HBx := hide hBx
      have HE := hide hE
      have H32x := hide hx32
      obtain ⟨axx, cx, hu, -⟩ := hSx
      rw [hx32] at hu
      subst hu
      have HLN : Hid ((ps.take t).length ≤ 1000000) := hide (by rw [List.length_take]; omega)
      have hc25 : wr.cell? ⟨gp, 2, none⟩ = some (.slice ao m cc) := by rw [cell_of_row wr gp 2 _ _ _ (unhide HGr)]; rfl
      have al' : ∀ (a : Addr) (u : Value), wr.cell? a = some u → ∀ o, (wr.alloc o).cell? a = some u := fun a u h o => (World.cell?_alloc_lt _ _ _ (by exact World.block_lt_of_cell? _ _ h)).trans h
      have e25 := al' _ _ hc25
      have hgpr : gp < wr.heap.size := (Array.getElem?_eq_some_iff.1 (unhide HGr)).1
      clear hBx hE hX al' hx hx32 htl
      go_wp2_with fail
      go_region_law (first
        | (refine step_append_row (by rfl) (.tmp 50) (.tmp 51) (by rfl) wr.heap.size (.slice (some ⟨wr.heap.size, 0, none⟩) 0 0) [] (by rfl) ((row_of_block (bs := []) (n := 0) (Nat.le_refl _) (heap_alloc_new wr _) rfl (by simp [maxLen])).kept (kp_drew _) (by simp)) (.slice axx 32 cx) X (by rfl) ((unhide HSx).kept (((Kp.refl [] wr).alloc _).drew) (by simp)) (by have := unhide H32x; simp; omega) (by simp) ?_; intro a2 m2 c2 w2 R2 S2; have K2 : Kp [] wr w2 := ((((Kp.refl [] wr).alloc _).drew).then S2.1 (by simp [Value.ownBlock])); have hcy : w2.cell? ⟨gp, 2, none⟩ = some (.slice ao m cc) := K2.cell hc25 (by simp); have ey : ∀ o, (w2.alloc o).cell? ⟨gp, 2, none⟩ = some (.slice ao m cc) := (fun o => (World.cell?_alloc_lt _ _ _ (by exact World.block_lt_of_cell? _ _ hcy)).trans hcy); have HR2 := hide R2; have HK2 := hide K2; clear R2 S2 K2)
        | (refine step_accp (by rfl) (.tmp 49) (.tmp 53) (by rfl) (.slice ao m cc) _ (by rfl) (unhide HA) (unhide HLN) (.slice a2 m2 c2) ([] ++ X) (unhide HK2) (unhide HR2) (unhide HBx) w2.heap.size (by rfl) (by exact cell_of_one (heap_alloc_new w2 _)) ((Kp.refl [] w2).alloc _) ?_; intro ao5 m5 c5 w5 A5 S5; have G5 : w5.heap[gp]? = some _ := S5.1.heap (unhide HGr) (fun hm => by have := ((unhide HA).own gp (by simpa using hm)).1; omega); have hc5 : w5.cell? ⟨gp, 2, none⟩ = some (.slice ao m cc) := (by rw [cell_of_row w5 gp 2 _ _ _ G5]; rfl); have hf5 : w5.frozen? ⟨gp, 2, none⟩ = false := frozen_of_row w5 gp 2 _ _ G5))
      all_goals
        have G6 := heap_setCell_same w5 gp 2 _ _ (.slice ao5 m5 c5) G5
        have A6 := A5.off (kp_set w5 gp 2 (.slice ao5 m5 c5)) (by simp) hgp4
        rw [List.nil_append] at A6
        have HG6 := hide G6
        have HA6 := hide A6
        clear A5 S5 G5 G6 A6 hc25 e25 hcy ey hc5 hf5 HR2 HK2 HSx hcx
        go_wp2_with fail
        go_roundw
        case rel => exact ⟨t + 1, m5, c5, ao5, by omega, by go_num, by rw [unhide HE]; exact unhide HA6, by simpa using unhide HG6⟩
        case measure => simp [intOf]; omega
    · obtain rfl : t = M := by omega
      have hlt2 : ¬ (t : Int) < (t : Int) := by omega
      have hT : ps.take t = ps := List.take_of_length_le (by rw [← unhide HM]; omega)
      rw [hT] at HA
      obtain ⟨w5, hw5⟩ : ∃ w5, w5 = wr := ⟨_, rfl⟩
      subst hw5
      have hmt : m = t := by rw [(unhide HA).len]; exact (unhide HM).symm
      subst hmt
      have HK5 : Hid (Kp [] w1 w5) := (unhide HK4).then (unhide HA).kp (fun i hi => .inr (by have := unhide HGP; simp at hi; omega))
      have HL5' := hide ((unhide HA).lcm (by rw [← unhide HM]; omega))
      obtain ⟨z0, z1, z2⟩ := cell_tri (unhide HGr)
      have f0 := frozen_of_row w5 gp 0 _ _ (unhide HGr)
      have f1 := frozen_of_row w5 gp 1 _ _ (unhide HGr)
      have f2 := frozen_of_row w5 gp 2 _ _ (unhide HGr)
      clear hT HSr

      have HWM := hide (unhide HM)
      clear hlt hlt2
      go_upto_block 2 with fail
      go_cut [20] from 57 to 105 (fun s wc => s = .bool false ∧ Hid (Behind w1 gp wc))
      case first =>
        by_cases h1 : how = 1
        · have h1d : (how == 1) = true := by simp [h1]
          clear h1
          by_cases hm0 : m = 0
          · have hm1 : decide ((0 : Int) < (m : Int)) = false := decide_eq_false (by omega)
            have hm2 : decide (0 < m) = false := decide_eq_false (by omega)
            clear hm0
            go_wp2_with fail
            go_meet
            exact ⟨rfl, k, N, ps, ao, m, cc, unhide HGr, unhide HL5', by omega, unhide HK5⟩
          · have hm1 : (0 : Int) < (m : Int) := by omega
            have hmm : (m : Int) ≤ 11 := by omega
            have hb := wiP_ge ax 0 ((m : Int) - 1) (by omega)
            obtain ⟨y, hy⟩ : ∃ y : Nat, wiP ax 0 ((m : Int) - 1) = (y : Int) := ⟨(wiP ax 0 ((m : Int) - 1)).toNat, by omega⟩
            have hym : y < m := by omega
            have hyi : (y : Int) < (m : Int) := by omega
            have HWI : Hid (∀ w', Calls Tryd.prog 15 #[.int .i64 ax, .int .i64 0, .int .i64 ((m : Int) - 1)] w' fun e w'' => e = .returned (.int .i64 y) ∧ w'' = w') := fun w' => by
              have := within_wi ax 0 ((m : Int) - 1) w' (by omega) (by omega) (by omega)
              rw [hy] at this
              exact this
            have hyl : y < ps.length := by rw [← unhide HM]; exact hym
            have h32 := unhide HP32 _ (List.getElem_mem hyl)
            obtain ⟨gr, bk, cx, B, eao, hbk, r1, r2, r3⟩ := (unhide HA).byte y _ (List.getElem?_eq_getElem hyl) 3 (by omega)
            rw [h32] at r1
            subst eao
            obtain ⟨Y, hY⟩ : ∃ Y, bits .xor .u8 B tn = Y := ⟨_, rfl⟩
            have HYB : Hid (0 ≤ Y ∧ Y ≤ 255) := by rw [← hY]; exact xor_byte B tn
            have HCL : Hid (∀ w', Kp [] w5.drew w' → w'.cell? ⟨gr, y, none⟩ = some (.slice (some ⟨bk, 0, none⟩) 32 cx)) := fun w' k' => ((kp_drew w5).trans k').cell r1 (by simp)
            have HCB : Hid (∀ w', Kp [] w5.drew w' → w'.cell? ⟨bk, 3, none⟩ = some (.int .u8 B)) := fun w' k' => ((kp_drew w5).trans k').cell r2 (by simp)
            have HBL : Hid (bk < w5.heap.size) := hide (World.block_lt_of_cell? _ _ r2)
            have HR3 := hide r3
            have HST : Hid (∀ w', Kp [] w5.drew w' → w'.heap[gp]? = some (.cells #[.int .i64 k, .int .i64 N, .slice (some ⟨gr, 0, none⟩) m cc] 39 (0, 0))) := fun w' k' => ((kp_drew w5).trans k').heap (unhide HGr) (by simp)
            clear hb hy hyl h32 r1 r2 r3
            go_wp2_with fail
            refine region_grow_tail 15 Tryd.mixed [Is (.pointer (some ⟨gp, 2, none⟩)), Is (.slice (some ⟨gr, 0, none⟩) m cc), Is (.int .i64 ax), Is (.pointer (some ⟨gp, 2, none⟩)), Is (.slice (some ⟨gr, 0, none⟩) m cc), Is (.int .i64 m), Is (.int .i64 ((m : Int) - 1)), Is (.int .i64 y), Is (.pointer (some ⟨gr, y, none⟩)), Is (.slice (some ⟨bk, 0, none⟩) 32 cx), Is (.pointer (some ⟨bk, 3, none⟩)), Is (.int .u8 B), Is (.int .u8 tn), Is (.int .u8 Y), Is (.pointer (some ⟨bk, 3, none⟩))] [[(23, none)], [(64, some 0)], [(3, none)], [(23, none)], [(67, some 3)], [(68, some 4)], [(69, some 5)], [(66, some 2), (70, some 6)], [(65, some 1), (71, some 7)], [(72, some 8)], [(73, some 9)], [(74, some 10)], [(4, none)], [(75, some 11), (76, some 12)], [(73, some 9)]] (by kernel_rfl) ?_ ?_ ?_
            all_goals try simp only [List.take_succ_cons, List.take_zero, List.drop_succ_cons, List.drop_zero]
            · simp only [List.mem_cons, List.not_mem_nil, or_false]
              intro R hR
              rcases hR with rfl | rfl | rfl | rfl | rfl | rfl | rfl | rfl | rfl | rfl | rfl | rfl | rfl | rfl | rfl <;> first | exact stable_is _
            · refine steps_cons (fun a w hk hn => ?_) ?_
              · have h23 : a.eval (.tmp 23) = .pointer (some ⟨gp, 0, none⟩) := hn.1
                clear hn
                refine wants_plain rfl ?_
                exact grown_fld2 triG (.tmp 23) rfl h23
              refine steps_cons (fun a w hk hn => ?_) ?_
              · have h64 : a.eval (.tmp 64) = .pointer (some ⟨gp, 2, none⟩) := hn.1
                clear hn
                refine wants_plain rfl ?_
                exact grown_ldl (.tmp 64) rfl 2 _ _ _ h64 (cell_tri (unhide HST w hk)).2.2
              refine steps_cons (fun a w hk hn => ?_) ?_
              · have h3 : a.eval (.tmp 3) = .int .i64 ax := hn.1
                clear hn
                refine wants_plain rfl ?_
                exact grown_move (.tmp 3) rfl h3
              refine steps_cons (fun a w hk hn => ?_) ?_
              · have h23 : a.eval (.tmp 23) = .pointer (some ⟨gp, 0, none⟩) := hn.1
                clear hn
                refine wants_plain rfl ?_
                exact grown_fld2 triG (.tmp 23) rfl h23
              refine steps_cons (fun a w hk hn => ?_) ?_
              · have h67 : a.eval (.tmp 67) = .pointer (some ⟨gp, 2, none⟩) := hn.1
                clear hn
                refine wants_plain rfl ?_
                exact grown_ldl (.tmp 67) rfl 2 _ _ _ h67 (cell_tri (unhide HST w hk)).2.2
              refine steps_cons (fun a w hk hn => ?_) ?_
              · have h68 : a.eval (.tmp 68) = .slice (some ⟨gr, 0, none⟩) m cc := hn.1
                clear hn
                refine wants_plain rfl ?_
                refine grown_run (v := .int .i64 m) ?_ (Kp.refl _ _) rfl
                obtain ⟨ρ, hρ, hc, hf, hg⟩ := eval_is a
                rw [hρ] at h68 ⊢
                simp [go_sem, h68]
              refine steps_cons (fun a w hk hn => ?_) ?_
              · have h69 : a.eval (.tmp 69) = .int .i64 m := hn.1
                clear hn
                refine wants_plain rfl ?_
                refine grown_run (v := .int .i64 ((m : Int) - 1)) ?_ (Kp.refl _ _) rfl
                obtain ⟨ρ, hρ, hc, hf, hg⟩ := eval_is a
                rw [hρ] at h69 ⊢
                simp [go_sem, hc, h69]
                exact wrap_at (by omega) (by omega) (by omega)
              refine steps_cons (fun a w hk hn => ?_) ?_
              · have h66 : a.eval (.tmp 66) = .int .i64 ax := hn.1
                have h70 : a.eval (.tmp 70) = .int .i64 ((m : Int) - 1) := hn.2.1
                clear hn
                refine wants_plain rfl ?_
                refine grown_call (f := 15) rfl Tryd.func15 (by kernel_rfl) (by kernel_rfl) ?_
                simp only [List.map_toArray, List.map_cons, List.map_nil, h66, h70]
                refine (unhide HWI w).mono ?_
                rintro e w' ⟨rfl, rfl⟩
                exact ⟨_, rfl, Kp.refl _ _, rfl⟩
              refine steps_cons (fun a w hk hn => ?_) ?_
              · have h65 : a.eval (.tmp 65) = .slice (some ⟨gr, 0, none⟩) m cc := hn.1
                have h71 : a.eval (.tmp 71) = .int .i64 y := hn.2.1
                clear hn
                refine wants_plain rfl ?_
                refine grown_run (v := .pointer (some ⟨gr, y, none⟩)) ?_ (Kp.refl _ _) rfl
                obtain ⟨ρ, hρ, hc, hf, hg⟩ := eval_is a
                rw [hρ] at h65 h71 ⊢
                simp [go_sem, h65, h71, hyi]
              refine steps_cons (fun a w hk hn => ?_) ?_
              · have h72 : a.eval (.tmp 72) = .pointer (some ⟨gr, y, none⟩) := hn.1
                clear hn
                refine wants_plain rfl ?_
                refine grown_run (v := .slice (some ⟨bk, 0, none⟩) 32 cx) ?_ (Kp.refl _ _) rfl
                have hcell := unhide HCL w hk
                obtain ⟨ρ, hρ, hc, hf, hg⟩ := eval_is a
                rw [hρ] at h72 ⊢
                simp [go_sem, h72, hcell]
              refine steps_cons (fun a w hk hn => ?_) ?_
              · have h73 : a.eval (.tmp 73) = .slice (some ⟨bk, 0, none⟩) 32 cx := hn.1
                clear hn
                refine wants_plain rfl ?_
                refine grown_run (v := .pointer (some ⟨bk, 3, none⟩)) ?_ (Kp.refl _ _) rfl
                obtain ⟨ρ, hρ, hc, hf, hg⟩ := eval_is a
                rw [hρ] at h73 ⊢
                simp [go_sem, hc, h73]
              refine steps_cons (fun a w hk hn => ?_) ?_
              · have h74 : a.eval (.tmp 74) = .pointer (some ⟨bk, 3, none⟩) := hn.1
                clear hn
                refine wants_plain rfl ?_
                refine grown_run (v := .int .u8 B) ?_ (Kp.refl _ _) rfl
                have hcell := unhide HCB w hk
                obtain ⟨ρ, hρ, hc, hf, hg⟩ := eval_is a
                rw [hρ] at h74 ⊢
                simp [go_sem, h74, hcell]
              refine steps_cons (fun a w hk hn => ?_) ?_
              · have h4 : a.eval (.tmp 4) = .int .u8 tn := hn.1
                clear hn
                refine wants_plain rfl ?_
                exact grown_move (.tmp 4) rfl h4
              refine steps_cons (fun a w hk hn => ?_) ?_
              · have h75 : a.eval (.tmp 75) = .int .u8 B := hn.1
                have h76 : a.eval (.tmp 76) = .int .u8 tn := hn.2.1
                clear hn
                refine wants_plain rfl ?_
                refine grown_run (v := .int .u8 Y) ?_ (Kp.refl _ _) rfl
                obtain ⟨ρ, hρ, hc, hf, hg⟩ := eval_is a
                rw [hρ] at h75 h76 ⊢
                simp [go_sem, h75, h76, hY]
              refine steps_cons (fun a w hk hn => ?_) ?_
              · have h73 : a.eval (.tmp 73) = .slice (some ⟨bk, 0, none⟩) 32 cx := hn.1
                clear hn
                refine wants_plain rfl ?_
                refine grown_run (v := .pointer (some ⟨bk, 3, none⟩)) ?_ (Kp.refl _ _) rfl
                obtain ⟨ρ, hρ, hc, hf, hg⟩ := eval_is a
                rw [hρ] at h73 ⊢
                simp [go_sem, hc, h73]
              exact trivial
            intro W1 hkW1
            rintro _ rfl
            rintro _ rfl
            rintro _ rfl
            rintro _ rfl
            rintro _ rfl
            rintro _ rfl
            rintro _ rfl
            rintro _ rfl
            rintro _ rfl
            rintro _ rfl
            rintro _ rfl
            rintro _ rfl
            rintro _ rfl
            rintro _ rfl
            rintro _ rfl
            refine fin_nil ?_
            simp only [Act.put, List.set_cons_zero, List.set_cons_succ, List.setIfInBounds_toArray]
            have kk := (kp_drew w5).trans hkW1
            have q1 := unhide HCB W1 hkW1
            have q2 : W1.frozen? ⟨bk, 3, none⟩ = false := (kk.frz (unhide HBL) (by simp)).trans (unhide HR3)
            obtain ⟨ps', hL'⟩ := ((unhide HL5').kept kk).poke Y (unhide HYB).1 (unhide HYB).2 q1
            have HL' := hide hL'
            have HG' := hide ((kp_set W1 bk 3 (.int .u8 Y)).heap (kk.heap (unhide HGr) (by simp)) (by simp; omega))
            have HK' : Hid (Kp [] w1 (W1.setCell ⟨bk, 3, none⟩ (.int .u8 Y))) := ((unhide HK5).trans kk).then (kp_set W1 bk 3 (.int .u8 Y)) (fun j hj => .inr (by have := unhide HGP; simp at hj; omega))
            clear kk hkW1 hL' z0 z1 z2 f0 f1 f2
            go_wp2_with fail
            go_meet
            exact ⟨rfl, k, N, ps', _, m, cc, unhide HG', unhide HL', by omega, unhide HK'⟩
        · have h1d : (how == 1) = false := by simp [h1]
          clear h1
          by_cases h2 : how = 2
          · have h2d : (how == 2) = true := by simp [h2]
            clear h2
            have HG' : Hid ((w5.setCell ⟨gp, 0, none⟩ (.int .i64 sa)).heap[gp]? = some (.cells #[.int .i64 sa, .int .i64 N, .slice ao m cc] 39 (0, 0))) := hide (by simpa using heap_setCell_same w5 gp 0 _ _ (.int .i64 sa) (unhide HGr))
            have HL' := hide (((unhide HA).off (kp_set w5 gp 0 (.int .i64 sa)) (by simp) hgp4).lcm (by rw [← unhide HM]; omega))
            have HK' : Hid (Kp [] w1 (w5.setCell ⟨gp, 0, none⟩ (.int .i64 sa))) := (unhide HK5).then (kp_set w5 gp 0 (.int .i64 sa)) (fun j hj => .inr (by have := unhide HGP; simp at hj; omega))
            go_wp2_with fail
            go_meet
            exact ⟨rfl, sa, N, ps, ao, m, cc, unhide HG', unhide HL', by omega, unhide HK'⟩
          · have h2d : (how == 2) = false := by simp [h2]
            clear h2
            by_cases h3 : how = 3
            · have h3d : (how == 3) = true := by simp [h3]
              clear h3
              have HG' : Hid ((w5.setCell ⟨gp, 1, none⟩ (.int .i64 sb)).heap[gp]? = some (.cells #[.int .i64 k, .int .i64 sb, .slice ao m cc] 39 (0, 0))) := hide (by simpa using heap_setCell_same w5 gp 1 _ _ (.int .i64 sb) (unhide HGr))
              have HL' := hide (((unhide HA).off (kp_set w5 gp 1 (.int .i64 sb)) (by simp) hgp4).lcm (by rw [← unhide HM]; omega))
              have HK' : Hid (Kp [] w1 (w5.setCell ⟨gp, 1, none⟩ (.int .i64 sb))) := (unhide HK5).then (kp_set w5 gp 1 (.int .i64 sb)) (fun j hj => .inr (by have := unhide HGP; simp at hj; omega))
              go_wp2_with fail
              go_meet
              exact ⟨rfl, k, sb, ps, ao, m, cc, unhide HG', unhide HL', (unhide HSB).2, unhide HK'⟩
            · have h3d : (how == 3) = false := by simp [h3]
              clear h3
              by_cases h4 : how = 4
              · have h4d : (how == 4) = true := by simp [h4]
                clear h4
                have hmm : (m : Int) ≤ 11 := by omega
                have hb := wiP_ge ax 0 (m : Int) (by omega)
                obtain ⟨y, hy⟩ : ∃ y : Nat, wiP ax 0 (m : Int) = (y : Int) := ⟨(wiP ax 0 (m : Int)).toNat, by omega⟩
                have hym : y ≤ m := by omega
                have hcap := (unhide HA).cap
                have hyc : y ≤ cc := by omega
                have HWI : Hid (∀ w', Calls Tryd.prog 15 #[.int .i64 ax, .int .i64 0, .int .i64 m] w' fun e w'' => e = .returned (.int .i64 y) ∧ w'' = w') := fun w' => by
                  have := within_wi ax 0 (m : Int) w' (by omega) (by omega) (by omega)
                  rw [hy] at this
                  exact this
                have HST : Hid (∀ w', Kp [] w5.drew w' → w'.heap[gp]? = some (.cells #[.int .i64 k, .int .i64 N, .slice ao m cc] 39 (0, 0))) := fun w' k' => ((kp_drew w5).trans k').heap (unhide HGr) (by simp)
                clear hb hy
                go_wp2_with fail
                refine region_grow_tail 9 Tryd.mixed [Is (.pointer (some ⟨gp, 2, none⟩)), Is (.slice ao m cc), Is (.int .i64 ax), Is (.pointer (some ⟨gp, 2, none⟩)), Is (.slice ao m cc), Is (.int .i64 m), Is (.int .i64 y), Is (.slice ao y cc), Is (.pointer (some ⟨gp, 2, none⟩))] [[(23, none)], [(89, some 0)], [(3, none)], [(23, none)], [(92, some 3)], [(93, some 4)], [(91, some 2), (94, some 5)], [(90, some 1), (95, some 6)], [(23, none)]] (by kernel_rfl) ?_ ?_ ?_
                all_goals try simp only [List.take_succ_cons, List.take_zero, List.drop_succ_cons, List.drop_zero]
                · simp only [List.mem_cons, List.not_mem_nil, or_false]
                  intro R hR
                  rcases hR with rfl | rfl | rfl | rfl | rfl | rfl | rfl | rfl | rfl <;> first | exact stable_is _
                · refine steps_cons (fun a w hk hn => ?_) ?_
                  · have h23 : a.eval (.tmp 23) = .pointer (some ⟨gp, 0, none⟩) := hn.1
                    clear hn
                    refine wants_plain rfl ?_
                    exact grown_fld2 triG (.tmp 23) rfl h23
                  refine steps_cons (fun a w hk hn => ?_) ?_
                  · have h89 : a.eval (.tmp 89) = .pointer (some ⟨gp, 2, none⟩) := hn.1
                    clear hn
                    refine wants_plain rfl ?_
                    exact grown_ldl (.tmp 89) rfl 2 _ _ _ h89 (cell_tri (unhide HST w hk)).2.2
                  refine steps_cons (fun a w hk hn => ?_) ?_
                  · have h3 : a.eval (.tmp 3) = .int .i64 ax := hn.1
                    clear hn
                    refine wants_plain rfl ?_
                    exact grown_move (.tmp 3) rfl h3
                  refine steps_cons (fun a w hk hn => ?_) ?_
                  · have h23 : a.eval (.tmp 23) = .pointer (some ⟨gp, 0, none⟩) := hn.1
                    clear hn
                    refine wants_plain rfl ?_
                    exact grown_fld2 triG (.tmp 23) rfl h23
                  refine steps_cons (fun a w hk hn => ?_) ?_
                  · have h92 : a.eval (.tmp 92) = .pointer (some ⟨gp, 2, none⟩) := hn.1
                    clear hn
                    refine wants_plain rfl ?_
                    exact grown_ldl (.tmp 92) rfl 2 _ _ _ h92 (cell_tri (unhide HST w hk)).2.2
                  refine steps_cons (fun a w hk hn => ?_) ?_
                  · have h93 : a.eval (.tmp 93) = .slice ao m cc := hn.1
                    clear hn
                    refine wants_plain rfl ?_
                    refine grown_run (v := .int .i64 m) ?_ (Kp.refl _ _) rfl
                    obtain ⟨ρ, hρ, hc, hf, hg⟩ := eval_is a
                    rw [hρ] at h93 ⊢
                    simp [go_sem, h93]
                  refine steps_cons (fun a w hk hn => ?_) ?_
                  · have h91 : a.eval (.tmp 91) = .int .i64 ax := hn.1
                    have h94 : a.eval (.tmp 94) = .int .i64 m := hn.2.1
                    clear hn
                    refine wants_plain rfl ?_
                    refine grown_call (f := 15) rfl Tryd.func15 (by kernel_rfl) (by kernel_rfl) ?_
                    simp only [List.map_toArray, List.map_cons, List.map_nil, h91, h94]
                    refine (unhide HWI w).mono ?_
                    rintro e w' ⟨rfl, rfl⟩
                    exact ⟨_, rfl, Kp.refl _ _, rfl⟩
                  refine steps_cons (fun a w hk hn => ?_) ?_
                  · have h90 : a.eval (.tmp 90) = .slice ao m cc := hn.1
                    have h95 : a.eval (.tmp 95) = .int .i64 y := hn.2.1
                    clear hn
                    refine wants_plain rfl ?_
                    exact grown_cutv (.tmp 90) (.tmp 95) rfl ao m cc y h90 h95 hyc
                  refine steps_cons (fun a w hk hn => ?_) ?_
                  · have h23 : a.eval (.tmp 23) = .pointer (some ⟨gp, 0, none⟩) := hn.1
                    clear hn
                    refine wants_plain rfl ?_
                    exact grown_fld2 triG (.tmp 23) rfl h23
                  exact trivial
                intro W1 hkW1
                rintro _ rfl
                rintro _ rfl
                rintro _ rfl
                rintro _ rfl
                rintro _ rfl
                rintro _ rfl
                rintro _ rfl
                rintro _ rfl
                rintro _ rfl
                refine fin_nil ?_
                simp only [Act.put, List.set_cons_zero, List.set_cons_succ, List.setIfInBounds_toArray]
                have kk := (kp_drew w5).trans hkW1
                have GW := unhide HST W1 hkW1
                obtain ⟨q0, q1, q2⟩ := cell_tri GW
                have q3 := frozen_of_row W1 gp 2 _ _ GW
                have HG' : Hid ((W1.setCell ⟨gp, 2, none⟩ (.slice ao y cc)).heap[gp]? = some (.cells #[.int .i64 k, .int .i64 N, .slice ao y cc] 39 (0, 0))) := hide (by simpa using heap_setCell_same W1 gp 2 _ _ (.slice ao y cc) GW)
                have HL' := hide (((((unhide HA).mid kk).off (kp_set W1 gp 2 (.slice ao y cc)) (by simp) hgp4).lcm (by rw [← unhide HM]; omega)).take y (by rw [← unhide HM]; exact hym))
                have HK' : Hid (Kp [] w1 (W1.setCell ⟨gp, 2, none⟩ (.slice ao y cc))) := ((unhide HK5).trans kk).then (kp_set W1 gp 2 (.slice ao y cc)) (fun j hj => .inr (by have := unhide HGP; simp at hj; omega))
                clear kk hkW1 GW z0 z1 z2 f0 f1 f2
                go_wp2_with fail
                go_meet
                exact ⟨rfl, k, N, ps.take y, ao, y, cc, unhide HG', unhide HL', by omega, unhide HK'⟩
              · have h4d : (how == 4) = false := by simp [h4]
                clear h4
                by_cases h5 : how = 5
                · have h5d : (how == 5) = true := by simp [h5]
                  clear h5
                  obtain ⟨i0, hi0, hz0, hz1, hz2⟩ := info_parts Tryd.info5
                  obtain ⟨wm, hmr, hm1, hm2⟩ := run_make_full (P := Tryd.prog) w5.drew w5.heap.size 30 5 i0 (.int .u8 0) 1 Tryd.underlying30 hi0 hz0 hz1 .i64 .i64 32 (by rw [hz2]; omega) (by unfold maxLen; omega) (Nat.le_refl _)
                  rw [made_zero] at hm1
                  have hmr' : (Instr.makeSlice 30 (.int .i64 32) (.int .i64 32)).run Tryd.prog w5.drew = .ok (.slice (some ⟨w5.heap.size, 0, none⟩) 32 32) wm := hmr
                  clear hmr
                  have RM : Row wm w5.heap.size (.slice (some ⟨w5.heap.size, 0, none⟩) 32 32) (List.replicate 32 (0 : Int)) := by unfold Row; rw [List.length_replicate]; exact hm1
                  have KM : Kp [] w5 wm := (kp_drew w5).trans ((Kp.refl [] w5.drew).grown hm2 (by intro k hk; cases hk))
                  have HRM := hide RM
                  have HKM := hide KM
                  have E2 : wm.cell? ⟨gp, 2, none⟩ = some (.slice ao m cc) := KM.cell z2 (by simp)
                  have E2a : ∀ o, (wm.alloc o).cell? ⟨gp, 2, none⟩ = some (.slice ao m cc) := fun o => (World.cell?_alloc_lt _ _ _ (by exact World.block_lt_of_cell? _ _ E2)).trans E2
                  have HBZ := hide bs32
                  have HLNq : Hid (ps.length ≤ 1000000) := hide (by rw [← unhide HM]; omega)
                  have hgp5 : gp < w5.heap.size := (Array.getElem?_eq_some_iff.1 (unhide HGr)).1
                  clear hm1 hm2 RM KM
                  go_wp2_with fail
                  go_region_law ((refine step_accp (by rfl) (.tmp 101) (.tmp 103) (by rfl) (.slice ao m cc) _ (by rfl) (unhide HA) (unhide HLNq) (.slice (some ⟨w5.heap.size, 0, none⟩) 32 32) (List.replicate 32 (0 : Int)) (unhide HKM) (unhide HRM) (unhide HBZ) wm.heap.size (by rfl) (by exact cell_of_one (heap_alloc_new wm _)) ((Kp.refl [] wm).alloc _) ?_; intro ao5 m5 c5 w8 A5 S5; have G5 : w8.heap[gp]? = some _ := S5.1.heap (unhide HGr) (fun hm => by have := ((unhide HA).own gp (by simpa using hm)).1; omega); have hc5 : w8.cell? ⟨gp, 2, none⟩ = some (.slice ao m cc) := (by rw [cell_of_row w8 gp 2 _ _ _ G5]; rfl); have hf5 : w8.frozen? ⟨gp, 2, none⟩ = false := frozen_of_row w8 gp 2 _ _ G5))
                  all_goals
                    have HG' : Hid ((w8.setCell ⟨gp, 2, none⟩ (.slice ao5 m5 c5)).heap[gp]? = some (.cells #[.int .i64 k, .int .i64 N, .slice ao5 m5 c5] 39 (0, 0))) := hide (by simpa using heap_setCell_same w8 gp 2 _ _ (.slice ao5 m5 c5) G5)
                    have HL' := hide ((A5.off (kp_set w8 gp 2 (.slice ao5 m5 c5)) (by simp) hgp4).lcm (by rw [List.length_append, ← unhide HM]; simp; omega))
                    have hgo := (unhide HA).own
                    have HK' : Hid (Kp [] w1 (w8.setCell ⟨gp, 2, none⟩ (.slice ao5 m5 c5))) := ((unhide HK5).then S5.1 (fun j hj => .inr (by have := (hgo j (by simpa using hj)).1; have := unhide HGP; omega))).then (kp_set w8 gp 2 (.slice ao5 m5 c5)) (fun j hj => .inr (by have := unhide HGP; simp at hj; omega))
                    clear A5 S5 G5 hc5 hf5 hgo E2 E2a hmr' z0 z1 z2 f0 f1 f2
                    go_wp2_with fail
                    go_meet
                    exact ⟨rfl, k, N, _, ao5, m5, c5, unhide HG', unhide HL', by omega, unhide HK'⟩
                · have h5d : (how == 5) = false := by simp [h5]
                  clear h5
                  go_wp2_with fail
                  go_meet
                  exact ⟨rfl, k, N, ps, ao, m, cc, unhide HGr, unhide HL5', by omega, unhide HK5⟩
      case rest =>
        obtain ⟨rfl, HBH⟩ := hcut
        obtain ⟨i', n', ps', ao', m', c', GW, LW, hn', KW⟩ := unhide HBH
        have HST : Hid (∀ w', Kp [] wc w' → w'.heap[gp]? = some (.cells #[.int .i64 i', .int .i64 n', .slice ao' m' c'] 39 (0, 0))) := fun w' k' => k'.heap GW (by simp)
        have HTV : Hid (∀ w', Kp [] wc w' → TV w' (.agg #[.int .i64 i', .int .i64 n', .slice ao' m' c']) i' n' ps') := fun w' k' => ⟨ao', m', c', rfl, LW.kept k'⟩
        have HKC := hide ((unhide HK1).trans KW)
        have HLL : Hid (∀ w', Kp [] wc w' → LcM ls (.slice al N cl) w') := fun w' k' => (unhide HL1).kept (KW.trans k')
        have HGL : Hid (∀ w', Kp [] wc w' → Gl w') := fun w' k' => (unhide HG1).kept (KW.trans k') (by simp)
        have HE8 : Hid (∀ w', Kp [] wc w' → Sl w' (.slice a8 n8 c8) bs8) := fun w' k' => (unhide HS8).kept ((unhide HKC).trans k') (by simp)
        have HE9 : Hid (∀ w', Kp [] wc w' → Sl w' (.slice a9 n9 c9) bs9) := fun w' k' => (unhide HS9).kept ((unhide HKC).trans k') (by simp)
        obtain ⟨r, hr⟩ : ∃ r, r = trootP ls := ⟨_, rfl⟩
        have HRR := hide hr
        have HRB : Hid (Bs r) := by rw [hr]; exact trootP_bs _ (unhide HL1).bs
        obtain ⟨fs, hfs⟩ : ∃ fs, fs = (l5.take (min 20 l5.length)).map fun x => x.2.take 40 := ⟨_, rfl⟩
        have HFS := hide hfs
        clear GW LW KW HBH hr hfs z0 z1 z2 f0 f1 f2 HA HGr HL5' HK5 HSRC
        obtain ⟨x8, hx8⟩ : ∃ x, x = bs8.take 40 := ⟨_, rfl⟩
        obtain ⟨x9, hx9⟩ : ∃ x, x = bs9.take 40 := ⟨_, rfl⟩
        have HX8B : Hid (Bs x8) := by rw [hx8]; exact (unhide HB8).take _
        have HX9B : Hid (Bs x9) := by rw [hx9]; exact (unhide HB9).take _
        have hC := cut_any _ bs8 40 wc (unhide HE8 wc (Kp.refl _ _))
        rw [← hx8] at hC
        have HC := hide hC
        have hC := cut_any _ bs9 40 wc (unhide HE9 wc (Kp.refl _ _))
        rw [← hx9] at hC
        have HC9 := hide hC
        clear hC hx8 hx9
        go_wp2_with fail
        refine (unhide HC).mono ?_
        rintro ee w9 ⟨aA, cA, rfl, hT, hw⟩
        subst w9
        have HSA8 : Hid (∀ w', Kp [] wc w' → Sl w' (.slice aA x8.length cA) x8) := fun w' k' => hT w' (unhide HE8 w' k')
        obtain ⟨nA, hnA⟩ : ∃ m, m = x8.length := ⟨_, rfl⟩
        rw [← hnA] at HSA8 ⊢
        clear hT hnA HC
        go_wp2_with fail
        refine (unhide HC9).mono ?_
        rintro ee w9 ⟨aB, cB, rfl, hT, hw⟩
        subst w9
        have HSB9 : Hid (∀ w', Kp [] wc w' → Sl w' (.slice aB x9.length cB) x9) := fun w' k' => hT w' (unhide HE9 w' k')
        obtain ⟨nB, hnB⟩ : ∃ m, m = x9.length := ⟨_, rfl⟩
        rw [← hnB] at HSB9 ⊢
        clear hT hnB HC9
        have HC := hide (few_any _ l5 20 40 wc ((unhide HL5).kept (unhide HKC)) (by omega))
        go_wp2_with fail
        refine (unhide HC).mono ?_
        rintro ee w6 ⟨o6, rfl, F6⟩
        have K6 : Kp [] wc w6 := by obtain ⟨_, _, _, h, _⟩ := F6; exact h
        have M6 : LcM fs o6 w6 := by rw [unhide HFS]; exact F6.lc (unhide HB5) (by omega)
        obtain ⟨aq, cq, e6, -⟩ := M6.shape
        obtain ⟨nq, hnq⟩ : ∃ n, n = fs.length := ⟨_, rfl⟩
        rw [← hnq] at e6
        subst e6
        have HK6 := hide K6
        have HM6 := hide M6
        have G_ := heap_alloc_new w6 (.cells #[.int .i64 0, .int .i64 0, .slice none 0 0] 39)
        clear K6 M6 F6 hnq HC
        go_wp2_with (refine wpList_store_tri triG rfl (.tmp 26) (.tmp 114) rfl w6.heap.size rfl _ _ _ _ _ _ G_ rfl ⟨rfl, rfl, rfl⟩ ?_; intro w7 G7 K7; refine Hid.out ?_)
        have K67 : Kp [] w6 w7 := ((Kp.refl [] w6).alloc _).then K7 (by simp)
        obtain ⟨gq, hgq⟩ : ∃ g, g = w6.heap.size := ⟨_, rfl⟩
        rw [← hgq] at G7 ⊢
        have HSQ : Hid (∀ w', Kp [] w7 w' → w'.heap[gq]? = some (.cells #[.int .i64 sa, .int .i64 sb, .slice aq nq cq] 39 (0, 0))) := fun w' k' => k'.heap G7 (by simp)
        have HTQ : Hid (∀ w', Kp [] w7 w' → TV w' (.agg #[.int .i64 sa, .int .i64 sb, .slice aq nq cq]) sa sb fs) := fun w' k' => ⟨aq, nq, cq, rfl, (unhide HM6).kept (K67.trans k')⟩
        have HK7 := hide ((unhide HK6).trans K67)
        clear G_ G7 K7 K67 hgq
        refine hide ?_
        have hkl : k ≤ ls.length := by rw [unhide HNL]; exact hkN
        have hL7 := unhide HLL w7 (unhide HK7)
        obtain ⟨_, _, e7, hcl7, -⟩ := hL7.shape
        injection e7 with e71 e72 e73
        subst e71
        subst e73
        have hrun := run_lhead al N cl k w7 (by omega)
        obtain ⟨q, hq⟩ : ∃ q, q = trootP (ls.take k) := ⟨_, rfl⟩
        have HQB : Hid (Bs q) := by rw [hq]; exact trootP_bs _ (fun x hx => (unhide HL1).bs x (List.mem_of_mem_take hx))
        have HC := hide (rroot_any k _ (ls.take k) q w7 hq (by rw [List.length_take, unhide HNL]; omega) (by omega) (hL7.take k hkl) (fun x hx => unhide HML x (List.mem_of_mem_take hx)))
        clear hL7 hcl7 e72 hq hkl
        go_wp2_with fail
        refine (unhide HC).mono ?_
        rintro ee w8 ⟨aX, mX, cX, rfl, SX, K8⟩
        have HSX := hide SX
        have HK8 := hide K8
        clear SX K8 HC hrun
        have HC := hide (rroot_any N _ ls r w8 (unhide HRR) (unhide HNL) (by omega) (unhide HLL w8 ((unhide HK7).trans (unhide HK8))) (unhide HML))
        go_wp2_with fail
        refine (unhide HC).mono ?_
        rintro ee w9 ⟨aY, mY, cY, rfl, SY, K9⟩
        have HK9 := hide ((unhide HK8).trans K9)
        have HD : Hid (∀ w', Kp [] w9.drew w' → Kp [] wc w') := fun w' k' => (unhide HK7).trans ((unhide HK9).trans ((kp_drew w9).trans k'))
        have HDQ : Hid (∀ w', Kp [] w9.drew w' → Kp [] w7 w') := fun w' k' => (unhide HK9).trans ((kp_drew w9).trans k')
        have HSXq : Hid (∀ w', Kp [] w9.drew w' → Sl w' (.slice aX mX cX) q) := fun w' k' => (unhide HSX).kept (K9.trans ((kp_drew w9).trans k')) (by simp)
        have HSYr : Hid (∀ w', Kp [] w9.drew w' → Sl w' (.slice aY mY cY) r) := fun w' k' => SY.kept ((kp_drew w9).trans k') (by simp)
        have hsb2 := (unhide HSB).2
        clear SY K9 HC
        go_wp2_with fail
        refine region_grow Tryd.mixed [Is (.agg #[.int .i64 i', .int .i64 n', .slice ao' m' c']), Is (.slice aX mX cX), Is (.slice aY mY cY), Is (.bool true), Is (.bool true), Is (.agg #[.int .i64 i', .int .i64 n', .slice ao' m' c']), Is (.slice aA nA cA), Is (.slice aB nB cB), Is (.bool true), Is (.bool true), Is (.bool true), Is (.agg #[.int .i64 sa, .int .i64 sb, .slice aq nq cq]), Is (.slice aX mX cX), Is (.slice aY mY cY), Is (.bool true), Is (.bool true), Is (.bool true), Is (.agg #[.int .i64 sa, .int .i64 sb, .slice aq nq cq]), Is (.slice aA nA cA), SbT, Is (.slice aB nB cB), Is (.bool true), Is (.bool true), Is (.bool true), Is (.bool true), Is (.bool true), Is (.bool true)] [[(23, none)], [(27, none)], [(28, none)], [(121, some 0), (122, some 1), (123, some 2)], [(124, some 3)], [(23, none), (125, some 4)], [(8, none), (125, some 4)], [(9, none), (125, some 4)], [(126, some 5), (127, some 6), (128, some 7), (125, some 4)], [(125, some 4), (129, some 8)], [(130, some 9)], [(26, none), (131, some 10)], [(27, none), (131, some 10)], [(28, none), (131, some 10)], [(132, some 11), (133, some 12), (134, some 13), (131, some 10)], [(131, some 10), (135, some 14)], [(136, some 15)], [(26, none), (137, some 16)], [(8, none), (137, some 16)], [(139, some 18), (137, some 16)], [(9, none), (137, some 16)], [(138, some 17), (140, some 19), (141, some 20), (137, some 16)], [(137, some 16), (142, some 21)], [(143, some 22)], [(144, some 23)], [(144, some 23), (145, some 24)], [(146, some 25)]] (by kernel_rfl) ?_ ?_ ?_
        · simp only [List.mem_cons, List.not_mem_nil, or_false]
          intro R hR
          rcases hR with rfl | rfl | rfl | rfl | rfl | rfl | rfl | rfl | rfl | rfl | rfl | rfl | rfl | rfl | rfl | rfl | rfl | rfl | rfl | rfl | rfl | rfl | rfl | rfl | rfl | rfl | rfl <;> first | exact stable_is _ | exact stable_sb
        · refine steps_cons (fun a w hk hn => ?_) ?_
          · have h23 : a.eval (.tmp 23) = .pointer (some ⟨gp, 0, none⟩) := hn.1
            clear hn
            refine wants_plain rfl ?_
            exact grown_loadtri triG (.tmp 23) rfl h23 ((fun w'' k' => unhide HST w'' (unhide HD w'' k')) w hk) rfl
          refine steps_cons (fun a w hk hn => ?_) ?_
          · have h27 : a.eval (.tmp 27) = .slice aX mX cX := hn.1
            clear hn
            refine wants_plain rfl ?_
            exact grown_move (.tmp 27) rfl h27
          refine steps_cons (fun a w hk hn => ?_) ?_
          · have h28 : a.eval (.tmp 28) = .slice aY mY cY := hn.1
            clear hn
            refine wants_plain rfl ?_
            exact grown_move (.tmp 28) rfl h28
          refine steps_cons (fun a w hk hn => ?_) ?_
          · have h121 : a.eval (.tmp 121) = .agg #[.int .i64 i', .int .i64 n', .slice ao' m' c'] := hn.1
            have h122 : a.eval (.tmp 122) = .slice aX mX cX := hn.2.1
            have h123 : a.eval (.tmp 123) = .slice aY mY cY := hn.2.2.1
            clear hn
            refine wants_plain rfl ?_
            refine grown_call (f := 22) rfl Tryd.func22 (by kernel_rfl) (by kernel_rfl) ?_
            simp only [List.map_toArray, List.map_cons, List.map_nil, h121, h122, h123]
            refine (lgrows_any _ _ _ i' n' ps' q r w (unhide HTV w (unhide HD w hk)) (unhide HSXq w hk) (unhide HQB) (unhide HSYr w hk) hn' (unhide HGL w (unhide HD w hk))).mono ?_
            rintro e w' ⟨rfl, K⟩
            exact ⟨_, rfl, K, rfl⟩
          refine steps_cons (fun a w hk hn => ?_) ?_
          · have h124 : a.eval (.tmp 124) = .bool true := hn.1
            clear hn
            refine wants_plain rfl ?_
            exact grown_move (.tmp 124) rfl h124
          refine steps_cons (fun a w hk hn => ?_) ?_
          · have h23 : a.eval (.tmp 23) = .pointer (some ⟨gp, 0, none⟩) := hn.1
            have h125 : a.eval (.tmp 125) = .bool true := hn.2.1
            clear hn
            refine wants_guard (d := 125) rfl rfl h125 ?_
            exact grown_loadtri triG (.tmp 23) rfl h23 ((fun w'' k' => unhide HST w'' (unhide HD w'' k')) w hk) rfl
          refine steps_cons (fun a w hk hn => ?_) ?_
          · have h8 : a.eval (.tmp 8) = .slice aA nA cA := hn.1
            have h125 : a.eval (.tmp 125) = .bool true := hn.2.1
            clear hn
            refine wants_guard (d := 125) rfl rfl h125 ?_
            exact grown_move (.tmp 8) rfl h8
          refine steps_cons (fun a w hk hn => ?_) ?_
          · have h9 : a.eval (.tmp 9) = .slice aB nB cB := hn.1
            have h125 : a.eval (.tmp 125) = .bool true := hn.2.1
            clear hn
            refine wants_guard (d := 125) rfl rfl h125 ?_
            exact grown_move (.tmp 9) rfl h9
          refine steps_cons (fun a w hk hn => ?_) ?_
          · have h126 : a.eval (.tmp 126) = .agg #[.int .i64 i', .int .i64 n', .slice ao' m' c'] := hn.1
            have h127 : a.eval (.tmp 127) = .slice aA nA cA := hn.2.1
            have h128 : a.eval (.tmp 128) = .slice aB nB cB := hn.2.2.1
            have h125 : a.eval (.tmp 125) = .bool true := hn.2.2.2.1
            clear hn
            refine wants_guard (d := 125) rfl rfl h125 ?_
            refine grown_call (f := 22) rfl Tryd.func22 (by kernel_rfl) (by kernel_rfl) ?_
            simp only [List.map_toArray, List.map_cons, List.map_nil, h126, h127, h128]
            refine (lgrows_any _ _ _ i' n' ps' x8 x9 w (unhide HTV w (unhide HD w hk)) (unhide HSA8 w (unhide HD w hk)) (unhide HX8B) (unhide HSB9 w (unhide HD w hk)) hn' (unhide HGL w (unhide HD w hk))).mono ?_
            rintro e w' ⟨rfl, K⟩
            exact ⟨_, rfl, K, rfl⟩
          refine steps_cons (fun a w hk hn => ?_) ?_
          · have h125 : a.eval (.tmp 125) = .bool true := hn.1
            have h129 : a.eval (.tmp 129) = .bool true := hn.2.1
            clear hn
            refine wants_plain rfl ?_
            exact grown_pick _ _ _ true rfl h125 h129
          refine steps_cons (fun a w hk hn => ?_) ?_
          · have h130 : a.eval (.tmp 130) = .bool true := hn.1
            clear hn
            refine wants_plain rfl ?_
            exact grown_move (.tmp 130) rfl h130
          refine steps_cons (fun a w hk hn => ?_) ?_
          · have h26 : a.eval (.tmp 26) = .pointer (some ⟨gq, 0, none⟩) := hn.1
            have h131 : a.eval (.tmp 131) = .bool true := hn.2.1
            clear hn
            refine wants_guard (d := 131) rfl rfl h131 ?_
            exact grown_loadtri triG (.tmp 26) rfl h26 ((fun w'' k' => unhide HSQ w'' (unhide HDQ w'' k')) w hk) rfl
          refine steps_cons (fun a w hk hn => ?_) ?_
          · have h27 : a.eval (.tmp 27) = .slice aX mX cX := hn.1
            have h131 : a.eval (.tmp 131) = .bool true := hn.2.1
            clear hn
            refine wants_guard (d := 131) rfl rfl h131 ?_
            exact grown_move (.tmp 27) rfl h27
          refine steps_cons (fun a w hk hn => ?_) ?_
          · have h28 : a.eval (.tmp 28) = .slice aY mY cY := hn.1
            have h131 : a.eval (.tmp 131) = .bool true := hn.2.1
            clear hn
            refine wants_guard (d := 131) rfl rfl h131 ?_
            exact grown_move (.tmp 28) rfl h28
          refine steps_cons (fun a w hk hn => ?_) ?_
          · have h132 : a.eval (.tmp 132) = .agg #[.int .i64 sa, .int .i64 sb, .slice aq nq cq] := hn.1
            have h133 : a.eval (.tmp 133) = .slice aX mX cX := hn.2.1
            have h134 : a.eval (.tmp 134) = .slice aY mY cY := hn.2.2.1
            have h131 : a.eval (.tmp 131) = .bool true := hn.2.2.2.1
            clear hn
            refine wants_guard (d := 131) rfl rfl h131 ?_
            refine grown_call (f := 22) rfl Tryd.func22 (by kernel_rfl) (by kernel_rfl) ?_
            simp only [List.map_toArray, List.map_cons, List.map_nil, h132, h133, h134]
            refine (lgrows_any _ _ _ sa sb fs q r w (unhide HTQ w (unhide HDQ w hk)) (unhide HSXq w hk) (unhide HQB) (unhide HSYr w hk) hsb2 (unhide HGL w (unhide HD w hk))).mono ?_
            rintro e w' ⟨rfl, K⟩
            exact ⟨_, rfl, K, rfl⟩
          refine steps_cons (fun a w hk hn => ?_) ?_
          · have h131 : a.eval (.tmp 131) = .bool true := hn.1
            have h135 : a.eval (.tmp 135) = .bool true := hn.2.1
            clear hn
            refine wants_plain rfl ?_
            exact grown_pick _ _ _ true rfl h131 h135
          refine steps_cons (fun a w hk hn => ?_) ?_
          · have h136 : a.eval (.tmp 136) = .bool true := hn.1
            clear hn
            refine wants_plain rfl ?_
            exact grown_move (.tmp 136) rfl h136
          refine steps_cons (fun a w hk hn => ?_) ?_
          · have h26 : a.eval (.tmp 26) = .pointer (some ⟨gq, 0, none⟩) := hn.1
            have h137 : a.eval (.tmp 137) = .bool true := hn.2.1
            clear hn
            refine wants_guard (d := 137) rfl rfl h137 ?_
            exact grown_loadtri triG (.tmp 26) rfl h26 ((fun w'' k' => unhide HSQ w'' (unhide HDQ w'' k')) w hk) rfl
          refine steps_cons (fun a w hk hn => ?_) ?_
          · have h8 : a.eval (.tmp 8) = .slice aA nA cA := hn.1
            have h137 : a.eval (.tmp 137) = .bool true := hn.2.1
            clear hn
            refine wants_guard (d := 137) rfl rfl h137 ?_
            exact grown_move (.tmp 8) rfl h8
          refine steps_cons (fun a w hk hn => ?_) ?_
          · have h139 : a.eval (.tmp 139) = .slice aA nA cA := hn.1
            have h137 : a.eval (.tmp 137) = .bool true := hn.2.1
            clear hn
            refine wants_guard (d := 137) rfl rfl h137 ?_
            refine grown_call (f := 20) rfl Tryd.func20 (by kernel_rfl) (by kernel_rfl) ?_
            simp only [List.map_toArray, List.map_cons, List.map_nil, h139]
            refine (sized_any _ x8 w (unhide HSA8 w (unhide HD w hk)) (unhide HX8B)).mono ?_
            rintro e w' ⟨g, bs', rfl, -, hb, R, K⟩
            exact ⟨_, rfl, K, bs', R.sl, hb⟩
          refine steps_cons (fun a w hk hn => ?_) ?_
          · have h9 : a.eval (.tmp 9) = .slice aB nB cB := hn.1
            have h137 : a.eval (.tmp 137) = .bool true := hn.2.1
            clear hn
            refine wants_guard (d := 137) rfl rfl h137 ?_
            exact grown_move (.tmp 9) rfl h9
          refine steps_cons (fun a w hk hn => ?_) ?_
          · have h138 : a.eval (.tmp 138) = .agg #[.int .i64 sa, .int .i64 sb, .slice aq nq cq] := hn.1
            have h140 : (SbT) (a.eval (.tmp 140)) w := hn.2.1
            have h141 : a.eval (.tmp 141) = .slice aB nB cB := hn.2.2.1
            have h137 : a.eval (.tmp 137) = .bool true := hn.2.2.2.1
            clear hn
            refine wants_guard (d := 137) rfl rfl h137 ?_
            refine grown_call (f := 22) rfl Tryd.func22 (by kernel_rfl) (by kernel_rfl) ?_
            simp only [List.map_toArray, List.map_cons, List.map_nil, h138, h141]
            refine (lgrows_sb _ _ _ sa sb fs x9 w (unhide HTQ w (unhide HDQ w hk)) h140 (unhide HSB9 w (unhide HD w hk)) hsb2 (unhide HGL w (unhide HD w hk))).mono ?_
            rintro e w' ⟨rfl, K⟩
            exact ⟨_, rfl, K, rfl⟩
          refine steps_cons (fun a w hk hn => ?_) ?_
          · have h137 : a.eval (.tmp 137) = .bool true := hn.1
            have h142 : a.eval (.tmp 142) = .bool true := hn.2.1
            clear hn
            refine wants_plain rfl ?_
            exact grown_pick _ _ _ true rfl h137 h142
          refine steps_cons (fun a w hk hn => ?_) ?_
          · have h143 : a.eval (.tmp 143) = .bool true := hn.1
            clear hn
            refine wants_plain rfl ?_
            exact grown_move (.tmp 143) rfl h143
          refine steps_cons (fun a w hk hn => ?_) ?_
          · have h144 : a.eval (.tmp 144) = .bool true := hn.1
            clear hn
            refine wants_guard (d := 144) rfl rfl h144 ?_
            refine grown_call (f := 12) rfl Tryd.func12 (by kernel_rfl) (by kernel_rfl) ?_
            simp only [List.map_toArray, List.map_nil]
            refine (pknown_any w (unhide HGL w (unhide HD w hk))).mono ?_
            rintro e w' ⟨rfl, K⟩
            exact ⟨_, rfl, K, rfl⟩
          refine steps_cons (fun a w hk hn => ?_) ?_
          · have h144 : a.eval (.tmp 144) = .bool true := hn.1
            have h145 : a.eval (.tmp 145) = .bool true := hn.2.1
            clear hn
            refine wants_plain rfl ?_
            exact grown_pick _ _ _ true rfl h144 h145
          refine steps_cons (fun a w hk hn => ?_) ?_
          · have h146 : a.eval (.tmp 146) = .bool true := hn.1
            clear hn
            refine wants_plain rfl ?_
            exact grown_assign (.tmp 146) rfl h146
          exact trivial
        intro W1 hkW1
        rintro _ rfl
        rintro _ rfl
        rintro _ rfl
        rintro _ rfl
        rintro _ rfl
        rintro _ rfl
        rintro _ rfl
        rintro _ rfl
        rintro _ rfl
        rintro _ rfl
        rintro _ rfl
        rintro _ rfl
        rintro _ rfl
        rintro _ rfl
        rintro _ rfl
        rintro _ rfl
        rintro _ rfl
        rintro _ rfl
        rintro _ rfl
        intro v140 h140
        rintro _ rfl
        rintro _ rfl
        rintro _ rfl
        rintro _ rfl
        rintro _ rfl
        rintro _ rfl
        rintro _ rfl
        refine fin_nil ?_
        simp only [Act.put, List.set_cons_zero, List.set_cons_succ, List.setIfInBounds_toArray]
        go_wp2_with fail
        go_ret
        exact ⟨rfl, ((unhide HKC).trans (unhide HD W1 hkW1)).below (Nat.le_refl _) (by simp)⟩

set_option maxRecDepth 100000 in
theorem lifted (os : Os) (started : os.Started) (H : Type) (enc : TypeId × Value → H) :
    ReturnsInHanded {} Tryd.checked os 6 .any (fun w args => (Rows.proofGrowsSpec.pre enc Tryd.prog Tryd.f6 [] false w args ∧ laidMetH Tryd.prog laid1 w) ∧ sizedMet enc Tryd.prog Tryd.f6 (OpenSpec.ofChange Rows.proofGrowsSpec) false w args) (Rows.proofGrowsSpec.post enc Tryd.prog Tryd.f6 false true false false) := by
  refine returnsInHanded_of_change_and (C := Tryd.checked) (X := fun w _ => laidMetH Tryd.prog laid1 w) (fun _ _ _ hh h => h.of_heap hh) own started (by kernel_rfl) Tryd.func6
    (ChangeSpec.witness_shaped (enc := enc) (C := Tryd.checked) (os := os) (X := fun w _ => laidMetH Tryd.prog laid1 w) false (World.doorLaid Tryd.prog 400 os) #[.int .i64 0, .int .i64 0, .int .i64 0, .int .i64 0, .int .u8 0, .slice none 0 0, .int .i64 0, .int .i64 0, .slice none 0 0, .slice none 0 0] 8 rfl (World.shaped_of_RefB (by kernel_rfl) (by kernel_rfl)) (by kernel_rfl) (by kernel_rfl) (by kernel_rfl) (door_met os _)) ?_
  intro W base args ds gs before hval0 hW hcnd hsz0 hL _
  have hG := gl_of_laid hL
  have hval : ∀ (j : Nat) t v, Tryd.f6.params[j]? = some t → args[j]? = some v → Value.okWide Tryd.prog W .any base t v := hval0
  have hW' := hW
  obtain ⟨p, q, hA0, hV, rfl, hfz, hnd⟩ := hW
  have hA : DataW.TrodAll enc Tryd.prog W 0 (fun _ => true) true Tryd.f6.params.toList args.toList ds p := hA0
  rw [Tryd.params6] at hA hval
  obtain ⟨v0, vs0, d0, ds0, p0, q0, hargs, rfl, rfl, h0, r0⟩ := trodAll_cons hA
  obtain ⟨v1, vs1, d1, ds1, p1, q1, rfl, rfl, rfl, h1, r1⟩ := trodAll_cons r0
  obtain ⟨v2, vs2, d2, ds2, p2, q2, rfl, rfl, rfl, h2, r2⟩ := trodAll_cons r1
  obtain ⟨v3, vs3, d3, ds3, p3, q3, rfl, rfl, rfl, h3, r3⟩ := trodAll_cons r2
  obtain ⟨v4, vs4, d4, ds4, p4, q4, rfl, rfl, rfl, h4, r4⟩ := trodAll_cons r3
  obtain ⟨v5, vs5, d5, ds5, p5, q5, rfl, rfl, rfl, h5, r5⟩ := trodAll_cons r4
  obtain ⟨v6, vs6, d6, ds6, p6, q6, rfl, rfl, rfl, h6, r6⟩ := trodAll_cons r5
  obtain ⟨v7, vs7, d7, ds7, p7, q7, rfl, rfl, rfl, h7, r7⟩ := trodAll_cons r6
  obtain ⟨v8, vs8, d8, ds8, p8, q8, rfl, rfl, rfl, h8, r8⟩ := trodAll_cons r7
  obtain ⟨v9, vs9, d9, ds9, p9, q9, rfl, rfl, rfl, h9, r9⟩ := trodAll_cons r8
  obtain ⟨rfl, rfl, rfl⟩ := trodAll_nil r9
  obtain rfl : args = #[v0, v1, v2, v3, v4, v5, v6, v7, v8, v9] := by cases args; simp_all
  obtain ⟨rfl, rfl⟩ := trodVars_none hV
  obtain ⟨a0, rfl, rfl, rfl, w0⟩ := open_int Tryd.underlying3 (hval 0 3 v0 rfl rfl) h0
  obtain ⟨a1, rfl, rfl, rfl, w1⟩ := open_int Tryd.underlying3 (hval 1 3 v1 rfl rfl) h1
  obtain ⟨a2, rfl, rfl, rfl, w2⟩ := open_int Tryd.underlying3 (hval 2 3 v2 rfl rfl) h2
  obtain ⟨a3, rfl, rfl, rfl, w3⟩ := open_int Tryd.underlying3 (hval 3 3 v3 rfl rfl) h3
  obtain ⟨a4, rfl, rfl, rfl, w4⟩ := open_int Tryd.underlying5 (hval 4 5 v4 rfl rfl) h4
  obtain ⟨a5, len5, cap5, rfl⟩ := okWide_slice Tryd.underlying22 (hval 5 22 v5 rfl rfl)
  have k5 := h5
  have lt5 : ∀ x ∈ p5, x.block < W.heap.size := by obtain ⟨m, hm⟩ := k5; exact DataW.trod_lt m _ _ _ hm
  obtain ⟨l5, s5⟩ : ∃ l, Lists W (.slice a5 len5 cap5) l := by
    obtain ⟨fuel, hf⟩ := h5
    exact lists_of_trod (by simpa [Value.cells] using hf)
  obtain ⟨a6, rfl, rfl, rfl, w6⟩ := open_int Tryd.underlying3 (hval 6 3 v6 rfl rfl) h6
  obtain ⟨a7, rfl, rfl, rfl, w7⟩ := open_int Tryd.underlying3 (hval 7 3 v7 rfl rfl) h7
  obtain ⟨a8, len8, cap8, rfl⟩ := okWide_slice Tryd.underlying30 (hval 8 30 v8 rfl rfl)
  have k8 := h8
  have lt8 : ∀ x ∈ p8, x.block < W.heap.size := by obtain ⟨m, hm⟩ := k8; exact DataW.trod_lt m _ _ _ hm
  obtain ⟨l8, s8, b8⟩ : ∃ bs, Sl W (.slice a8 len8 cap8) bs ∧ Bs bs := by
    obtain ⟨fuel, hf⟩ := h8
    exact bytes_of_trod (by simpa [Value.cells] using hf)
  obtain ⟨a9, len9, cap9, rfl⟩ := okWide_slice Tryd.underlying30 (hval 9 30 v9 rfl rfl)
  have k9 := h9
  have lt9 : ∀ x ∈ p9, x.block < W.heap.size := by obtain ⟨m, hm⟩ := k9; exact DataW.trod_lt m _ _ _ hm
  obtain ⟨l9, s9, b9⟩ : ∃ bs, Sl W (.slice a9 len9 cap9) bs ∧ Bs bs := by
    obtain ⟨fuel, hf⟩ := h9
    exact bytes_of_trod (by simpa [Value.cells] using hf)
  clear hA0 hval0
  refine (walk a0 a1 a2 a3 a4 (.slice a5 len5 cap5) l5 a6 a7 (.slice a8 len8 cap8) l8 (.slice a9 len9 cap9) l9 W hG (bounds_i64 w0) (bounds_i64 w1) (bounds_i64 w2) (bounds_i64 w3) (bounds_u8 w4) s5 (bounds_i64 w6) (bounds_i64 w7) s8 b8 s9 b9).mono fun e W' ⟨he, bel⟩ => ?_
  subst he
  exact ⟨_, rfl, _, _, _, [], _, [], hW', trodAll_mk1 (shut_bool Tryd.underlying4 _), (trodAll_cons_mk (shut_int Tryd.underlying3 w0) (trodAll_cons_mk (shut_int Tryd.underlying3 w1) (trodAll_cons_mk (shut_int Tryd.underlying3 w2) (trodAll_cons_mk (shut_int Tryd.underlying3 w3) (trodAll_cons_mk (shut_int Tryd.underlying5 w4) (trodAll_cons_mk (Below.trod laidOut (by kernel_rfl) (of_decide_eq_true (by kernel_rfl)) k5 bel lt5) (trodAll_cons_mk (shut_int Tryd.underlying3 w6) (trodAll_cons_mk (shut_int Tryd.underlying3 w7) (trodAll_cons_mk (Below.trod laidOut (by kernel_rfl) (of_decide_eq_true (by kernel_rfl)) k8 bel lt8) (trodAll_cons_mk (Below.trod laidOut (by kernel_rfl) (of_decide_eq_true (by kernel_rfl)) k9 bel lt9) trodAll_mk0)))))))))), rfl, bel.frame _, fun h => by cases h⟩

theorem over : Rows.proofGrowsRow.holds Tryd.pinned (OpenSpec.ofChange Rows.proofGrowsSpec) :=
  OpenClaim.holds_of_wide 6 Tryd.f6 rfl rfl rfl rfl rfl rfl rfl ⟨rfl, rfl, rfl, rfl, rfl⟩ rfl rfl rfl rfl rfl (by kernel_rfl) Tryd.func6 (by kernel_rfl)
    (of_decide_eq_true (by kernel_rfl)) (by unfold Func.isWrapper; first | (rw [if_pos (by decide +kernel)]; kernel_rfl) | (rw [if_neg (by decide +kernel)]; exact ⟨rfl, rfl⟩))
    (fun os started H enc _ => lifted os started H enc)
end Go.Proofs.YtphhofgjnlfjmaaDoor.proofGrows

namespace Go.Proofs.YtphhofgjnlfjmaaDoor
/-- The given statement: the tied card. -/
theorem ProofGrows_holds : Rows.ProofGrowsCardSaid :=
  Claim7.holds_tied_plain_at .later [] [.data] true Rows.proofGrowsCard.stood.harness false
    proofGrows.over (fun _ h => by cases h) (by kernel_rfl) (fun _ h => by cases h) proofGrows_row_tie rfl ⟨rfl, rfl⟩ (by kernel_rfl) rfl
    (fun f fn hf hfn => by
      obtain rfl : f = 6 := Option.some.inj ((show Tryd.prog.funcNamed "broadsheet/broadsheetlaw8.ProofGrows" = some 6 by kernel_rfl).symm.trans hf) |>.symm
      obtain rfl : fn = Tryd.f6 := (Option.some.inj (Tryd.func6.symm.trans hfn)).symm
      exact ⟨by kernel_rfl, fun j t ht => by
        rw [Tryd.params6] at ht
        have hm : t ∈ ([3, 3, 3, 3, 5, 22, 3, 3, 30, 30] : List TypeId) := by simpa using Array.mem_of_getElem? ht
        have hall : (([3, 3, 3, 3, 5, 22, 3, 3, 30, 30] : List TypeId).all fun u => !Tryd.prog.wantsStandIn u) = true := by kernel_rfl
        exact (show Tryd.prog.wantsStandIn t = false by simpa using List.all_eq_true.1 hall t hm)⟩)
    (by kernel_rfl)
#print axioms ProofGrows_holds
end Go.Proofs.YtphhofgjnlfjmaaDoor
