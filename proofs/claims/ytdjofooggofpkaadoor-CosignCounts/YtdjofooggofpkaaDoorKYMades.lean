/-
  Draws (broadsheetlaw11.Draw) in memory, and the cosignatures that are made of them.
-/
import Derived.Test.YtdjofooggofpkaaDoorKYKnown
import Derived.Test.YtdjofooggofpkaaDoorKYMixs
import Derived.Test.YtdjofooggofpkaaDoorKYRefP
import Derived.Test.YtdjofooggofpkaaDoorKHSmalls
import Derived.Test.YtdjofooggofpkaaDoorKLMore
import Derived.Lib.SmallJoins
import Derived.Deep.Slices
import Derived.Deep.Strs
import Derived.ProofKit
import Derived.OpenShut
namespace Go.Proofs.YtdjofooggofpkaaDoor
open Go.RowKit
open Go.Proofs

/-- a draw: of whom, said to be of whom, by which key, of another root. -/
structure Dr where
  who : Int
  said : Int
  idx : Int
  oth : Bool
/-- v is a slice of these. -/
def DrL (w : World) (v : Value) (l : List Dr) : Prop := ∃ ao c, v = .slice ao l.length c ∧ l.length ≤ 9223372036854775807 ∧ ∀ i (h : i < l.length), (∃ b off, ao = some ⟨b, off, none⟩ ∧ w.rangeAt b (off + i * 4) [.int .i64 l[i].who, .int .i64 l[i].said, .int .i64 l[i].idx, .bool l[i].oth])
theorem DrL.kept {w w' : World} {v : Value} {l : List Dr} (h : DrL w v l) (k : Kp [] w w') : DrL w' v l := by
  obtain ⟨ao, c, e, h1, h2⟩ := h
  refine ⟨ao, c, e, h1, fun i hi => ?_⟩
  obtain ⟨b, off, e, h3⟩ := h2 i hi
  exact ⟨b, off, e, fun j u hu => k.cell (h3 j u hu) (by simp)⟩
def whoW (no : Nat) (d : Dr) : Nat := (wiP d.who 0 ((no : Int) - 1)).toNat
def idxW (d : Dr) : Nat := (wiP d.idx 0 15).toNat
def rootW (r : List Int) (d : Dr) : List Int := if d.oth then hashX 77 else r
/-- the cosignature of a draw. -/
def drW (no : Nat) (n : Int) (r : List Int) (d : Dr) : Co :=
  ⟨if d.said.tmod 4 = 0 then d.said else (whoW no d : Int), (idxW d : Int), sgnP (seedX (whoW no d : Nat)) (idxW d : Nat) (digP (bodW n (rootW r d))), pthP (seedX (whoW no d : Nat)) (idxW d) 4⟩
def mdW (no : Nat) (n : Int) (r : List Int) (l : List Dr) : List Co := (l.take 6).map (drW no n r)
theorem mdW_len (no : Nat) (n : Int) (r : List Int) (l : List Dr) : (mdW no n r l).length = min 6 l.length := by simp [mdW]
theorem idxW_lt (d : Dr) : idxW d < 16 := by unfold idxW; have := wiP_ge d.idx 0 15 (by omega); omega
theorem whoW_lt {no : Nat} (h : 1 ≤ no) (d : Dr) : whoW no d < no := by unfold whoW; have := wiP_ge d.who 0 ((no : Int) - 1) (by omega); omega
theorem drW_big (no : Nat) (n : Int) (r : List Int) (d : Dr) : (drW no n r d).big := by
  have h := (rgtP_iff _ _ _).1 (rgtP_sgn (seedX (whoW no d : Nat)) (idxW d) (idxW_lt d) (digP (bodW n (rootW r d))))
  refine ⟨.inr ?_, .inr ?_⟩
  · show 3 ≤ (sgnP (seedX (whoW no d : Nat)) (idxW d : Nat) (digP (bodW n (rootW r d)))).length
    rw [h.2.1.1]; omega
  · show 3 ≤ (pthP (seedX (whoW no d : Nat)) (idxW d) 4).length
    rw [h.2.2.1]; omega
theorem mdW_i {no : Nat} {n : Int} {r : List Int} {l : List Dr} {c : Co} (h : c ∈ mdW no n r l) : -9223372036854775808 ≤ c.i ∧ c.i ≤ 9223372036854775807 := by
  obtain ⟨d, _, rfl⟩ := List.mem_map.1 h
  have := idxW_lt d
  show _ ≤ (idxW d : Int) ∧ (idxW d : Int) ≤ _
  omega
theorem mdW_at {no : Nat} {n : Int} {r : List Int} {l : List Dr} {k : Nat} (h : k < l.length) (h6 : k < 6) : (mdW no n r l).getD k co0 = drW no n r l[k] := by
  have : k < (l.take 6).length := by simp; omega
  simp [mdW, List.getD, h, h6]
end Go.Proofs.YtdjofooggofpkaaDoor

/-
  The contract of the law package's made.
-/
namespace Go.Proofs.YtdjofooggofpkaaDoor
open Go.RowKit
open Go.Proofs

set_option maxRecDepth 100000 in
set_option maxHeartbeats 16000000 in
theorem made_any (vd : Value) (l : List Dr) (vo : Value) (no : Nat) (vc : Value) (n : Int) (r : List Int) (w : World) (hD : DrL w vd l) (hO : OwL w vo no) (hno : 1 ≤ no ∧ no ≤ 4) (hC : CkV w vc n r) :
    Calls Tryd.prog 19 #[vd, vo, vc] w fun e w' => ∃ ao m c, e = .returned (.slice ao m c) ∧ m = (mdW no n r l).length ∧ RowQ 33 4 (CoP (mdW no n r l)) (mdW no n r l).length w (.slice ao m c) w' := by
  have HO := hide hO
  have HC := hide hC
  obtain ⟨av, co, rfl, -, -⟩ := hO
  obtain ⟨ar, mr, cr, rfl, -, hBr⟩ := hC
  obtain ⟨ad, cd, rfl, hdl, hdc⟩ := hD
  obtain ⟨nd, hnd⟩ : ∃ n, n = l.length := ⟨_, rfl⟩
  rw [← hnd] at hdl ⊢
  obtain ⟨w1, hw1⟩ : ∃ x, x = w.alloc (.cells #[.int .i64 n, .slice ar mr cr] 27) := ⟨_, rfl⟩
  obtain ⟨g5, hg5⟩ : ∃ g, g = w.heap.size := ⟨_, rfl⟩
  have K1 : Kp [] w w1 := by rw [hw1]; exact (Kp.refl [] w).alloc _
  have G5 : w1.heap[g5]? = some (.cells #[.int .i64 n, .slice ar mr cr] 27 (0, 0)) := by rw [hw1, hg5]; exact heap_alloc_new w _
  have HI : Hid (RowQ 33 4 (CoP (mdW no n r l)) 0 w1 (.slice none 0 0) w1) := RowQ.nil w1
  have HG5 := hide G5
  have HW1 := hide hw1
  have H5 := hide hg5
  have HND := hide hnd
  have HDC := hide hdc
  have HBr := hide hBr
  have hno4 := hno.2
  have hno1 := hno.1
  have HK1 := hide K1
  clear hw1 hg5 K1 G5 hnd hdc hBr hno
  go_enter Tryd.func19, Tryd.ntmps19
  go_wp2_with fail
  rw [← unhide HW1, ← unhide H5]
  go_loopw [7, 8] (fun vu vi wr => ∃ (k : Nat) (ao : Option Addr) (m c : Nat), k ≤ 6 ∧ k ≤ nd ∧ vi = .int .i64 k ∧ vu = .slice ao m c ∧ m = k ∧ RowQ 33 4 (CoP (mdW no n r l)) k w1 (.slice ao m c) wr) (fun _ vi _ => 6 - (intOf vi).toNat)
  case atStart => exact ⟨0, none, 0, 0, by omega, by omega, rfl, rfl, rfl, unhide HI⟩
  case round =>
    clear HI
    obtain ⟨k, ao, m, c, hk6, hkn, rfl, rfl, hmk, hR⟩ := hrel
    have HR := hide hR
    have HMK := hide hmk
    have HKw := hide ((unhide HK1).trans hR.kp)
    have HG5r := hide (hR.kp.heap (unhide HG5) (by simp))
    clear hR hmk
    by_cases hlt : k < nd
    · have hlti : (k : Int) < (nd : Int) := by omega
      by_cases hl6 : k < 6
      · have hl6i : (k : Int) < 6 := by omega
        have hkl : k < l.length := by have := unhide HND; omega
        obtain ⟨bd, od, rfl, hdr⟩ := unhide HDC k hkl
        obtain ⟨d, hd⟩ : ∃ d, d = l[k]'hkl := ⟨_, rfl⟩
        rw [← hd] at hdr
        have HMD : Hid ((mdW no n r l).getD k co0 = drW no n r d) := hide (by rw [mdW_at hkl hl6, hd])
        obtain ⟨dw, hdw⟩ : ∃ x, x = d.who := ⟨_, rfl⟩
        obtain ⟨ds, hds⟩ : ∃ x, x = d.said := ⟨_, rfl⟩
        obtain ⟨di, hdi⟩ : ∃ x, x = d.idx := ⟨_, rfl⟩
        obtain ⟨dt, hdt⟩ : ∃ x, x = d.oth := ⟨_, rfl⟩
        rw [← hdw, ← hds, ← hdi, ← hdt] at hdr
        have HDR : Hid (∀ w', Kp [] w w' → ∀ j u, [Value.int .i64 dw, .int .i64 ds, .int .i64 di, .bool dt][j]? = some u → w'.cell? ⟨bd, od + k * 4 + j, none⟩ = some u) := fun w' k' j u hu => k'.cell (hdr j u hu) (by simp)
        obtain ⟨kw, hkw⟩ : ∃ x, x = whoW no d := ⟨_, rfl⟩
        obtain ⟨ix, hix⟩ : ∃ x, x = idxW d := ⟨_, rfl⟩
        have hkwn : kw < no := by rw [hkw]; exact whoW_lt hno1 d
        have hkwi : (kw : Int) < (no : Int) := by omega
        have HIX : Hid (ix < 16) := hide (by rw [hix]; exact idxW_lt d)
        have HWH : Hid (∀ w, Calls Tryd.prog 18 #[.int .i64 dw, .int .i64 0, .int .i64 ((no : Int) - 1)] w fun e w' => e = .returned (.int .i64 kw) ∧ w' = w) := fun w => by
          have h := within_wi dw 0 ((no : Int) - 1) w (by omega) (by omega) (by omega)
          have e : wiP dw 0 ((no : Int) - 1) = (kw : Int) := by
            rw [hkw, hdw]
            unfold whoW
            have := wiP_ge d.who 0 ((no : Int) - 1) (by omega)
            omega
          rw [e] at h
          exact h
        have HWI : Hid (∀ w, Calls Tryd.prog 18 #[.int .i64 di, .int .i64 0, .int .i64 15] w fun e w' => e = .returned (.int .i64 ix) ∧ w' = w) := fun w => by
          have h := within_wi di 0 15 w (by omega) (by omega) (by omega)
          have e : wiP di 0 15 = (ix : Int) := by
            rw [hix, hdi]
            unfold idxW
            have := wiP_ge d.idx 0 15 (by omega)
            omega
          rw [e] at h
          exact h
        have HKWE := hide hkw
        have HIXE := hide hix
        have HDS := hide hds
        have HDT := hide hdt
        have c0 : wr.cell? ⟨g5, 0, none⟩ = some (.int .i64 n) := by rw [cell_of_row wr g5 0 _ _ _ (unhide HG5r)]; rfl
        have c1 : wr.cell? ⟨g5, 1, none⟩ = some (.slice ar mr cr) := by rw [cell_of_row wr g5 1 _ _ _ (unhide HG5r)]; rfl
        have Ga := heap_alloc_new wr (.cells #[.int .i64 0, .slice none 0 0] 27)
        have HKa : Hid (Kp [] wr (wr.alloc (.cells #[.int .i64 0, .slice none 0 0] 27))) := (Kp.refl [] wr).alloc _
        clear hd hdw hds hdi hdt hdr hkw hix HDC
        go_wp2_with (refine wpList_store_flat rfl 27 (.tmp 9) (.tmp 22) rfl wr.heap.size 0 rfl _ _ [.int .i64 n, .slice ar mr cr] Ga rfl (by simp) Tryd.chkSize (by simp [Value.oneCell']) #[.int .i64 n, .slice ar mr cr] rfl ?_; intro w3 G3 K3; refine Hid.out ?_)
        obtain ⟨g9, hg9⟩ : ∃ g, g = wr.heap.size := ⟨_, rfl⟩
        have Kr3 : Kp [] wr w3 := (unhide HKa).then K3 (fun i hi => .inr (by simp at hi; omega))
        rw [← hg9] at G3 ⊢
        have HKr3 := hide Kr3
        have HG93 := hide G3
        have hx3 := unhide HDR w3 ((unhide HKw).trans Kr3) 3 _ rfl
        have H9 := hide hg9
        clear Ga HKa G3 K3 Kr3 hg9 c0 c1
        refine hide ?_
        cases dt
        · obtain ⟨wB, hwB⟩ : ∃ x, x = w3 := ⟨_, rfl⟩
          have HKrB : Hid (Kp [] wr wB) := hide (by rw [hwB]; exact unhide HKr3)
          have HKwB : Hid (Kp [] w wB) := (unhide HKw).trans (unhide HKrB)
          obtain ⟨ax, hax⟩ : ∃ a, a = ar := ⟨_, rfl⟩
          obtain ⟨mx, hmx⟩ : ∃ a, a = mr := ⟨_, rfl⟩
          obtain ⟨cx, hcx⟩ : ∃ a, a = cr := ⟨_, rfl⟩
          have HG9B : Hid (wB.heap[g9]? = some (.cells #[.int .i64 n, .slice ax mx cx] 27 (0, 0))) := hide (by rw [hwB, hax, hmx, hcx]; exact unhide HG93)
          obtain ⟨rr, hrr⟩ : ∃ x, x = rootW r d := ⟨_, rfl⟩
          have HCB : Hid (CkV wB (.agg #[.int .i64 n, .slice ax mx cx]) n rr) := hide (by
            rw [hax, hmx, hcx, hrr]
            unfold rootW
            rw [← unhide HDT]
            exact (unhide HC).kept (unhide HKwB))
          have HRR := hide hrr
          rw [← hwB]
          clear hwB hrr hax hmx hcx HG93 HKr3 hx3
          have hx3 := unhide HDR wB (unhide HKwB) 3 _ rfl
          have hx0 := unhide HDR wB (unhide HKwB) 0 _ rfl
          rw [Nat.add_zero] at hx0
          have hx1 : True := trivial
          have hsubo : IntKind.i64.wrap ((no : Int) - 1) = (no : Int) - 1 := by simp [IntKind.wrap, IntKind.signed, IntKind.bits]; omega
          go_wp2_with fail
          skip
          refine (unhide HWH wB).mono ?_
          rintro ee wx ⟨rfl, hwx⟩
          subst wx
          obtain ⟨ao', co', e', -, hcell⟩ := (unhide HO)
          injection e' with e1 e2 e3
          subst e1
          obtain ⟨bo, oo, go, base, rfl, hxo, hOw⟩ := hcell kw hkwn
          obtain ⟨wZ, hwZ⟩ : ∃ x, x = w := ⟨_, rfl⟩
          have HOW : Hid (Ow wZ base go (seedX kw) 5) := hide (by rw [hwZ]; exact hOw)
          have HWD : Hid (∀ w', Kp [] wB.drew w' → Kp [] wZ w') := fun w' k' => by rw [hwZ]; exact (unhide HKwB).trans ((kp_drew wB).trans k')
          have HWZ := hide hwZ
          have HXO : Hid (∀ w', Kp [] wB.drew w' → w'.cell? ⟨bo, oo + kw, none⟩ = some (.pointer (some ⟨go, 0, none⟩))) := fun w' k' => (unhide HWD w' k').cell (by rw [unhide HWZ]; exact hxo) (by simp)
          have HXI : Hid (∀ w', Kp [] wB.drew w' → w'.cell? ⟨bd, od + k * 4 + 2, none⟩ = some (.int .i64 di)) := fun w' k' => unhide HDR w' (by rw [← unhide HWZ]; exact unhide HWD w' k') 2 _ rfl
          have HT9 : Hid (∀ w', Kp [] wB.drew w' → w'.heap[g9]? = some (.cells #[.int .i64 n, .slice ax mx cx] 27 (0, 0))) := fun w' k' => ((kp_drew wB).trans k').heap (unhide HG9B) (by simp)
          have HCX : Hid (∀ w', Kp [] wB.drew w' → CkV w' (.agg #[.int .i64 n, .slice ax mx cx]) n rr) := fun w' k' => (unhide HCB).kept ((kp_drew wB).trans k')
          obtain ⟨B, hB⟩ : ∃ B, B = bodW n rr := ⟨_, rfl⟩
          have HBB := hide hB
          have HBS : Hid (Bs B) := hide (by rw [hB]; obtain ⟨_, _, _, _, _, hb⟩ := unhide HCB; exact bodW_bs n rr hb)
          have HBL : Hid (B.length ≤ 1000) := hide (by rw [hB]; have := bodW_le n rr; omega)
          clear hcell hxo hOw e2 e3 hB hx0 hsubo hwZ
          go_wp2_with fail
          refine region_grow_tail 16 Tryd.mixed [Is (.int .i64 kw), Is (.slice (some ⟨bo, oo, none⟩) no co), Is (.int .i64 kw), Is (.pointer (some ⟨bo, oo + kw, none⟩)), Is (.pointer (some ⟨go, 0, none⟩)), Is (.slice (some ⟨bd, od, none⟩) nd cd), Is (.int .i64 k), Is (.pointer (some ⟨bd, od + k * 4, none⟩)), Is (.pointer (some ⟨bd, od + k * 4 + 2, none⟩)), Is (.int .i64 di), Is (.int .i64 ix), Is (.agg #[.int .i64 n, .slice ax mx cx]), SlT (B), SgQT wZ.heap.size wB.drew.heap.size ix (sgnP (seedX kw) ix (digP B)) (pthP (seedX kw) ix 4), CoQT wZ.heap.size wB.drew.heap.size ⟨kw, ix, sgnP (seedX kw) ix (digP B), pthP (seedX kw) ix 4⟩, NewX wB.drew.heap.size] [[(10, none)], [(1, none)], [(10, none)], [(40, some 1), (41, some 2)], [(42, some 3)], [(0, none)], [(8, none)], [(44, some 5), (45, some 6)], [(46, some 7)], [(47, some 8)], [(48, some 9)], [(9, none)], [(50, some 11)], [(43, some 4), (49, some 10), (51, some 12)], [(39, some 0), (52, some 13)], []] (by kernel_rfl) ?_ ?_ ?_
          all_goals try simp only [List.take_succ_cons, List.take_zero, List.drop_succ_cons, List.drop_zero]
          · simp only [List.mem_cons, List.not_mem_nil, or_false]
            intro R hR
            rcases hR with rfl | rfl | rfl | rfl | rfl | rfl | rfl | rfl | rfl | rfl | rfl | rfl | rfl | rfl | rfl | rfl <;> first | exact stable_is _ | exact stable_sl _ | exact stable_sgqt _ _ _ _ _ | exact stable_coqt _ _ _ | exact stable_newx _
          · refine steps_cons (fun a w hk hn => ?_) ?_
            · have h10 : a.eval (.tmp 10) = .int .i64 kw := hn.1
              clear hn
              refine wants_plain rfl ?_
              exact grown_move (.tmp 10) rfl h10
            refine steps_cons (fun a w hk hn => ?_) ?_
            · have h1 : a.eval (.tmp 1) = .slice (some ⟨bo, oo, none⟩) no co := hn.1
              clear hn
              refine wants_plain rfl ?_
              exact grown_move (.tmp 1) rfl h1
            refine steps_cons (fun a w hk hn => ?_) ?_
            · have h10 : a.eval (.tmp 10) = .int .i64 kw := hn.1
              clear hn
              refine wants_plain rfl ?_
              exact grown_move (.tmp 10) rfl h10
            refine steps_cons (fun a w hk hn => ?_) ?_
            · have h40 : a.eval (.tmp 40) = .slice (some ⟨bo, oo, none⟩) no co := hn.1
              have h41 : a.eval (.tmp 41) = .int .i64 kw := hn.2.1
              clear hn
              refine wants_plain rfl ?_
              refine grown_run (v := .pointer (some ⟨bo, oo + kw, none⟩)) ?_ (Kp.refl _ _) rfl
              obtain ⟨ρ, hρ, hc, hf, hg⟩ := eval_is a
              rw [hρ] at h40 h41 ⊢
              simp [go_sem, h40, h41, hkwi]
            refine steps_cons (fun a w hk hn => ?_) ?_
            · have h42 : a.eval (.tmp 42) = .pointer (some ⟨bo, oo + kw, none⟩) := hn.1
              clear hn
              refine wants_plain rfl ?_
              refine grown_run (v := .pointer (some ⟨go, 0, none⟩)) ?_ (Kp.refl _ _) rfl
              have hcell := unhide HXO w hk
              obtain ⟨ρ, hρ, hc, hf, hg⟩ := eval_is a
              rw [hρ] at h42 ⊢
              simp [go_sem, h42, hcell]
            refine steps_cons (fun a w hk hn => ?_) ?_
            · have h0 : a.eval (.tmp 0) = .slice (some ⟨bd, od, none⟩) nd cd := hn.1
              clear hn
              refine wants_plain rfl ?_
              exact grown_move (.tmp 0) rfl h0
            refine steps_cons (fun a w hk hn => ?_) ?_
            · have h8 : a.eval (.tmp 8) = .int .i64 k := hn.1
              clear hn
              refine wants_plain rfl ?_
              exact grown_move (.tmp 8) rfl h8
            refine steps_cons (fun a w hk hn => ?_) ?_
            · have h44 : a.eval (.tmp 44) = .slice (some ⟨bd, od, none⟩) nd cd := hn.1
              have h45 : a.eval (.tmp 45) = .int .i64 k := hn.2.1
              clear hn
              refine wants_plain rfl ?_
              refine grown_run (v := .pointer (some ⟨bd, od + k * 4, none⟩)) ?_ (Kp.refl _ _) rfl
              obtain ⟨ρ, hρ, hc, hf, hg⟩ := eval_is a
              rw [hρ] at h44 h45 ⊢
              simp [go_sem, h44, h45, hlti]
            refine steps_cons (fun a w hk hn => ?_) ?_
            · have h46 : a.eval (.tmp 46) = .pointer (some ⟨bd, od + k * 4, none⟩) := hn.1
              clear hn
              refine wants_plain rfl ?_
              refine grown_run (v := .pointer (some ⟨bd, od + k * 4 + 2, none⟩)) ?_ (Kp.refl _ _) rfl
              obtain ⟨ρ, hρ, hc, hf, hg⟩ := eval_is a
              rw [hρ] at h46 ⊢
              simp [go_sem, h46]
            refine steps_cons (fun a w hk hn => ?_) ?_
            · have h47 : a.eval (.tmp 47) = .pointer (some ⟨bd, od + k * 4 + 2, none⟩) := hn.1
              clear hn
              refine wants_plain rfl ?_
              refine grown_run (v := .int .i64 di) ?_ (Kp.refl _ _) rfl
              have hcell := unhide HXI w hk
              obtain ⟨ρ, hρ, hc, hf, hg⟩ := eval_is a
              rw [hρ] at h47 ⊢
              simp [go_sem, h47, hcell]
            refine steps_cons (fun a w hk hn => ?_) ?_
            · have h48 : a.eval (.tmp 48) = .int .i64 di := hn.1
              clear hn
              refine wants_plain rfl ?_
              refine grown_call (f := 18) rfl Tryd.func18 (by kernel_rfl) (by kernel_rfl) ?_
              simp only [List.map_toArray, List.map_cons, List.map_nil, h48]
              refine (unhide HWI w).mono ?_
              rintro e w' ⟨rfl, rfl⟩
              exact ⟨_, rfl, Kp.refl _ _, rfl⟩
            refine steps_cons (fun a w hk hn => ?_) ?_
            · have h9 : a.eval (.tmp 9) = .pointer (some ⟨g9, 0, none⟩) := hn.1
              clear hn
              refine wants_plain rfl ?_
              exact grown_loadf 27 (.tmp 9) rfl g9 0 h9 _ _ _ _ (unhide HT9 w hk) [.int .i64 n, .slice ax mx cx] (flat_in rfl) Tryd.underlying27 rfl Tryd.chkSize rfl
            refine steps_cons (fun a w hk hn => ?_) ?_
            · have h50 : a.eval (.tmp 50) = .agg #[.int .i64 n, .slice ax mx cx] := hn.1
              clear hn
              refine wants_plain rfl ?_
              refine grown_call (f := 16) rfl Tryd.func16 (by kernel_rfl) (by kernel_rfl) ?_
              simp only [List.map_toArray, List.map_cons, List.map_nil, h50]
              refine (rcosign_any _ n rr B (unhide HBB) w (unhide HCX w hk)).mono ?_
              rintro e w' ⟨ao, m, c, rfl, R, K⟩
              exact ⟨_, rfl, K, R⟩
            refine steps_cons (fun a w hk hn => ?_) ?_
            · have h43 : a.eval (.tmp 43) = .pointer (some ⟨go, 0, none⟩) := hn.1
              have h49 : a.eval (.tmp 49) = .int .i64 ix := hn.2.1
              have h51 : Sl w (a.eval (.tmp 51)) (B) := hn.2.2.1
              clear hn
              refine wants_plain rfl ?_
              refine grown_call (f := 27) rfl Tryd.func27 (by kernel_rfl) (by kernel_rfl) ?_
              simp only [List.map_toArray, List.map_cons, List.map_nil, h43, h49]
              refine (own_signK go base (seedX kw) ix _ B _ rfl wZ (unhide HOW) w (unhide HWD w hk) (seedX_bs _) (seedX_len _) (unhide HIX) h51 (unhide HBS) (unhide HBL)).mono ?_
              rintro e w2 ⟨v, rfl, V, K⟩
              exact ⟨_, rfl, K, fun S w3 hS k3 => V S w3 (fun q hq => ⟨(hS q hq).1, Nat.lt_of_lt_of_le (hS q hq).2 hk.size⟩) k3⟩
            refine steps_cons (fun a w hk hn => ?_) ?_
            · have h39 : a.eval (.tmp 39) = .int .i64 kw := hn.1
              have h52 : (SgQT wZ.heap.size wB.drew.heap.size ix (sgnP (seedX kw) ix (digP B)) (pthP (seedX kw) ix 4)) (a.eval (.tmp 52)) w := hn.2.1
              clear hn
              refine wants_plain rfl ?_
              exact grown_bcq (.tmp 39) (.tmp 52) rfl h39 h52
            refine steps_cons (fun a w hk hn => ?_) ?_
            · clear hn
              refine wants_plain rfl ?_
              exact grown_newx _ hk.size rfl
            exact trivial
          intro W1 hkW1
          rintro _ rfl
          rintro _ rfl
          rintro _ rfl
          rintro _ rfl
          rintro _ rfl
          rintro _ rfl
          rintro _ rfl
          rintro _ rfl
          rintro _ rfl
          rintro _ rfl
          rintro _ rfl
          rintro _ rfl
          intro v51 h51
          intro v52 h52
          intro v53 h53
          intro v11 h11
          refine fin_nil ?_
          simp only [Act.put, List.set_cons_zero, List.set_cons_succ, List.setIfInBounds_toArray]
          have hV := CoQ.v h53
          obtain ⟨ap, np, cp, aq, nq, cq, ev, -⟩ := id hV
          simp only at ev
          subst ev
          obtain ⟨g11, e11, hIs, hge⟩ := h11
          subst e11
          obtain ⟨iix, iiy, ia2, in2, ic2, ia3, in3, ic3, G11⟩ := id hIs
          have hwB11 : wB.drew.heap.size = wB.heap.size := rfl
          rw [hwB11] at hge
          have HDW : Hid ((⟨kw, ix, sgnP (seedX kw) ix (digP B), pthP (seedX kw) ix 4⟩ : Co) = ⟨kw, (drW no n r d).i, (drW no n r d).ps, (drW no n r d).qs⟩) := hide (by
            rw [unhide HBB, unhide HRR, unhide HIXE, unhide HKWE]
            rfl)
          have hbig : Co.big ⟨kw, ix, sgnP (seedX kw) ix (digP B), pthP (seedX kw) ix 4⟩ := by
            have h := drW_big no n r d
            rw [unhide HDW]
            exact h
          have HV1 : Hid (CoQ (fun q => wZ.heap.size ≤ q ∧ q < wB.heap.size) W1 (.agg #[.int .i64 kw, .int .i64 ix, .slice ap np cp, .slice aq nq cq]) ⟨kw, ix, sgnP (seedX kw) ix (digP B), pthP (seedX kw) ix 4⟩) := h53
          have HIS := hide hIs
          have HBIG := hide hbig
          have HKB1 := hide ((kp_drew wB).trans hkW1)
          have HGE := hide hge
          clear h51 h52 h53 hV hIs hbig hge HXO HT9 HXI HCX hkW1 HOW
          have hx1' := unhide HDR W1 ((unhide HKwB).trans (unhide HKB1)) 1 _ rfl
          go_wp2_with (refine wpList_store_flat rfl 33 (.tmp 11) (.tmp 53) rfl g11 0 rfl _ _ [.int .i64 kw, .int .i64 ix, .slice ap np cp, .slice aq nq cq] G11 rfl (by simp) Tryd.cosSize (by simp [Value.oneCell']) #[.int .i64 kw, .int .i64 ix, .slice ap np cp, .slice aq nq cq] rfl ?_; intro w7 G7 K7; refine Hid.out ?_)
          have HKB7 : Hid (Kp [] wB w7) := (unhide HKB1).then K7 (fun i hi => .inr (by simp at hi; have := unhide HGE; omega))
          have HV7 : Hid (CoQ (fun q => wZ.heap.size ≤ q ∧ q < wB.heap.size) w7 (.agg #[.int .i64 kw, .int .i64 ix, .slice ap np cp, .slice aq nq cq]) ⟨kw, ix, sgnP (seedX kw) ix (digP B), pthP (seedX kw) ix 4⟩) := hide ((unhide HV1).off4 (unhide HBIG) (fun h => by have := unhide HGE; omega) (unhide HIS) K7)
          have HG7 := hide G7
          have hx17 := unhide HDR w7 ((unhide HKwB).trans (unhide HKB7)) 1 _ rfl
          clear G11 G7 K7 HV1 HIS HKB1 hx1 hx1'
          refine hide ?_
          by_cases hsd : ds.tmod 4 = 0
          · have HDW2 : Hid (drW no n r d = ⟨ds, ix, sgnP (seedX kw) ix (digP B), pthP (seedX kw) ix 4⟩) := hide (by
              have h := unhide HDW
              injection h with _ h1 h2 h3
              have hk : (drW no n r d).k = ds := by
                show (if d.said.tmod 4 = 0 then d.said else _) = ds
                rw [← unhide HDS, if_pos hsd]
              have e : drW no n r d = ⟨(drW no n r d).k, (drW no n r d).i, (drW no n r d).ps, (drW no n r d).qs⟩ := rfl
              rw [e, hk, ← h1, ← h2, ← h3])
            have e0 : w7.cell? ⟨g11, 0, none⟩ = some (.int .i64 kw) := by rw [cell_of_row w7 g11 0 _ _ _ (unhide HG7)]; rfl
            have f0 : w7.frozen? ⟨g11, 0, none⟩ = false := frozen_of_row w7 g11 0 _ _ (unhide HG7)
            obtain ⟨w8, hw8⟩ : ∃ x, x = w7.setCell ⟨g11, 0, none⟩ (.int .i64 ds) := ⟨_, rfl⟩
            have G8 : w8.heap[g11]? = some (.cells #[.int .i64 ds, .int .i64 ix, .slice ap np cp, .slice aq nq cq] 33 (0, 0)) := by
              rw [hw8]
              have := heap_setCell_same w7 g11 0 _ _ (.int .i64 ds) (unhide HG7)
              simpa using this
            have K78 : Kp [g11] w7 w8 := by rw [hw8]; exact setCell_kp w7 g11 0 _
            have hg11 := unhide HGE
            have HK8 : Hid (Kp [] wB w8) := (unhide HKB7).then K78 (fun i hi => .inr (by simp at hi; omega))
            have HV8 : Hid (CoQ (fun q => wZ.heap.size ≤ q ∧ q < wB.heap.size) w8 (.agg #[.int .i64 ds, .int .i64 ix, .slice ap np cp, .slice aq nq cq]) (drW no n r d)) := hide (by
              rw [unhide HDW2]
              exact ((unhide HV7).off4 (unhide HBIG) (by omega) ⟨_, _, _, _, _, _, _, _, unhide HG7⟩ K78).said)
            have HW8 := hide hw8
            have x0 : w7.cell? ⟨g11, 1, none⟩ = some (.int .i64 ix) := by rw [cell_of_row w7 g11 1 _ _ _ (unhide HG7)]; rfl
            have x1 : w7.cell? ⟨g11, 2, none⟩ = some (.slice ap np cp) := by rw [cell_of_row w7 g11 2 _ _ _ (unhide HG7)]; rfl
            have x2 : w7.cell? ⟨g11, 3, none⟩ = some (.slice aq nq cq) := by rw [cell_of_row w7 g11 3 _ _ _ (unhide HG7)]; rfl
            have hwb := hwB11
            obtain ⟨kd, hkd⟩ : ∃ x, x = ds := ⟨_, rfl⟩
            clear hkd K78 G8
            obtain ⟨wL, hwL⟩ : ∃ x, x = (w7.setCell ⟨g11, 0, none⟩ (.int .i64 ds)).alloc (.cells #[.int .i64 ds, .int .i64 ix, .slice ap np cp, .slice aq nq cq] 33) := ⟨_, rfl⟩
            have KL : Kp [] w8 wL := by rw [hwL, unhide HW8]; exact (Kp.refl [] _).alloc _
            have GL : wL.heap[w8.heap.size]? = some (.cells #[.int .i64 ds, .int .i64 ix, .slice ap np cp, .slice aq nq cq] 33 (0, 0)) := by rw [hwL, unhide HW8]; exact heap_alloc_new _ _
            have HKL : Hid (Kp [] wr wL) := ((unhide HKrB).trans (unhide HK8)).trans KL
            have HP : Hid (∀ w3, Kp (Value.slice ao m c).ownBlock.toList wL w3 → CoP (mdW no n r l) k w3 [.int .i64 ds, .int .i64 ix, .slice ap np cp, .slice aq nq cq]) := fun w3 k3 => by
              show CoV w3 _ ((mdW no n r l).getD k co0)
              rw [unhide HMD]
              exact unhide HV8 _ w3 (fun q hq => ⟨by rw [unhide HWZ]; exact Nat.le_trans (unhide HK1).size ((unhide HR).own q (by simpa using hq)).1, Nat.lt_of_lt_of_le ((unhide HR).own q (by simpa using hq)).2 (unhide HKrB).size⟩) ((KL.mono (by simp)).trans k3)
            have hzz : w7.heap.size = w8.heap.size := by rw [unhide HW8]; simp
            have hNW : ∀ j u, [[.int .i64 ds, .int .i64 ix, .slice ap np cp, .slice aq nq cq]].flatten[j]? = some u → ((w7.setCell ⟨g11, 0, none⟩ (.int .i64 ds)).alloc (.cells #[.int .i64 ds, .int .i64 ix, .slice ap np cp, .slice aq nq cq] 33)).cell? ((⟨w7.heap.size, 0, none⟩ : Addr).add j) = some u := by
              rw [← hwL, hzz]
              exact news_one _ _ _ _ _ GL
            have HKL2 : Hid (Kp [] wr ((w7.setCell ⟨g11, 0, none⟩ (.int .i64 ds)).alloc (.cells #[.int .i64 ds, .int .i64 ix, .slice ap np cp, .slice aq nq cq] 33))) := hide (by rw [← hwL]; exact unhide HKL)
            have HP2 : Hid (∀ w3, Kp (Value.slice ao m c).ownBlock.toList ((w7.setCell ⟨g11, 0, none⟩ (.int .i64 ds)).alloc (.cells #[.int .i64 ds, .int .i64 ix, .slice ap np cp, .slice aq nq cq] 33)) w3 → CoP (mdW no n r l) k w3 [.int .i64 ds, .int .i64 ix, .slice ap np cp, .slice aq nq cq]) := hide (by rw [← hwL]; exact unhide HP)
            clear KL GL hwL HP HKL hzz
            go_wp2_with (at_builtin; refine wpList_rowq Tryd.infoCos rfl (by decide) (by decide) Tryd.underlying28 rfl (.tmp 67) (.tmp 69) rfl rfl (unhide HR) (unhide HKL2) ⟨w7.heap.size, 0, none⟩ 1 1 [[.int .i64 ds, .int .i64 ix, .slice ap np cp, .slice aq nq cq]] rfl rfl (by simp) hNW (by simp [Value.oneCell']) (by omega) (fun j hj w3 k3 => one_at hj (unhide HP2 w3 k3)) ?_; intro a5 m5 c5 w5 hm5 R5; refine Hid.out ?_)
            subst hm5
            have HR5 := hide R5
            clear R5 hNW HP2 HKL2
            refine hide ?_
            go_wp2_with fail
            go_roundw
            case rel => exact ⟨k + 1, a5, k + 1, c5, by omega, by omega, by go_num, rfl, rfl, unhide HR5⟩
            case measure => simp [intOf]; omega
          · have HDW2 : Hid (drW no n r d = ⟨kw, ix, sgnP (seedX kw) ix (digP B), pthP (seedX kw) ix 4⟩) := hide (by
              have h := unhide HDW
              injection h with _ h1 h2 h3
              have hk : (drW no n r d).k = kw := by
                show (if d.said.tmod 4 = 0 then d.said else _) = (kw : Int)
                rw [← unhide HDS, if_neg hsd, unhide HKWE]
              have e : drW no n r d = ⟨(drW no n r d).k, (drW no n r d).i, (drW no n r d).ps, (drW no n r d).qs⟩ := rfl
              rw [e, hk, ← h1, ← h2, ← h3])
            have hg11 := unhide HGE
            have x9 : w7.cell? ⟨g11, 0, none⟩ = some (.int .i64 kw) := by rw [cell_of_row w7 g11 0 _ _ _ (unhide HG7)]; rfl
            have x0 : w7.cell? ⟨g11, 1, none⟩ = some (.int .i64 ix) := by rw [cell_of_row w7 g11 1 _ _ _ (unhide HG7)]; rfl
            have x1 : w7.cell? ⟨g11, 2, none⟩ = some (.slice ap np cp) := by rw [cell_of_row w7 g11 2 _ _ _ (unhide HG7)]; rfl
            have x2 : w7.cell? ⟨g11, 3, none⟩ = some (.slice aq nq cq) := by rw [cell_of_row w7 g11 3 _ _ _ (unhide HG7)]; rfl
            have HV8 : Hid (CoQ (fun q => wZ.heap.size ≤ q ∧ q < wB.heap.size) w7 (.agg #[.int .i64 kw, .int .i64 ix, .slice ap np cp, .slice aq nq cq]) (drW no n r d)) := hide (by rw [unhide HDW2]; exact unhide HV7)
            obtain ⟨wL, hwL⟩ : ∃ x, x = w7.alloc (.cells #[.int .i64 kw, .int .i64 ix, .slice ap np cp, .slice aq nq cq] 33) := ⟨_, rfl⟩
            have KL : Kp [] w7 wL := by rw [hwL]; exact (Kp.refl [] _).alloc _
            have GL : wL.heap[w7.heap.size]? = some (.cells #[.int .i64 kw, .int .i64 ix, .slice ap np cp, .slice aq nq cq] 33 (0, 0)) := by rw [hwL]; exact heap_alloc_new _ _
            have HKL : Hid (Kp [] wr wL) := ((unhide HKrB).trans (unhide HKB7)).trans KL
            have HP : Hid (∀ w3, Kp (Value.slice ao m c).ownBlock.toList wL w3 → CoP (mdW no n r l) k w3 [.int .i64 kw, .int .i64 ix, .slice ap np cp, .slice aq nq cq]) := fun w3 k3 => by
              show CoV w3 _ ((mdW no n r l).getD k co0)
              rw [unhide HMD]
              exact unhide HV8 _ w3 (fun q hq => ⟨by rw [unhide HWZ]; exact Nat.le_trans (unhide HK1).size ((unhide HR).own q (by simpa using hq)).1, Nat.lt_of_lt_of_le ((unhide HR).own q (by simpa using hq)).2 (unhide HKrB).size⟩) ((KL.mono (by simp)).trans k3)
            have hzz : w7.heap.size = w7.heap.size := by rfl
            have hNW : ∀ j u, [[.int .i64 kw, .int .i64 ix, .slice ap np cp, .slice aq nq cq]].flatten[j]? = some u → (w7.alloc (.cells #[.int .i64 kw, .int .i64 ix, .slice ap np cp, .slice aq nq cq] 33)).cell? ((⟨w7.heap.size, 0, none⟩ : Addr).add j) = some u := by
              rw [← hwL, hzz]
              exact news_one _ _ _ _ _ GL
            have HKL2 : Hid (Kp [] wr (w7.alloc (.cells #[.int .i64 kw, .int .i64 ix, .slice ap np cp, .slice aq nq cq] 33))) := hide (by rw [← hwL]; exact unhide HKL)
            have HP2 : Hid (∀ w3, Kp (Value.slice ao m c).ownBlock.toList (w7.alloc (.cells #[.int .i64 kw, .int .i64 ix, .slice ap np cp, .slice aq nq cq] 33)) w3 → CoP (mdW no n r l) k w3 [.int .i64 kw, .int .i64 ix, .slice ap np cp, .slice aq nq cq]) := hide (by rw [← hwL]; exact unhide HP)
            clear KL GL hwL HP HKL hzz
            go_wp2_with (at_builtin; refine wpList_rowq Tryd.infoCos rfl (by decide) (by decide) Tryd.underlying28 rfl (.tmp 67) (.tmp 69) rfl rfl (unhide HR) (unhide HKL2) ⟨w7.heap.size, 0, none⟩ 1 1 [[.int .i64 kw, .int .i64 ix, .slice ap np cp, .slice aq nq cq]] rfl rfl (by simp) hNW (by simp [Value.oneCell']) (by omega) (fun j hj w3 k3 => one_at hj (unhide HP2 w3 k3)) ?_; intro a5 m5 c5 w5 hm5 R5; refine Hid.out ?_)
            subst hm5
            have HR5 := hide R5
            clear R5 hNW HP2 HKL2
            refine hide ?_
            go_wp2_with fail
            go_roundw
            case rel => exact ⟨k + 1, a5, k + 1, c5, by omega, by omega, by go_num, rfl, rfl, unhide HR5⟩
            case measure => simp [intOf]; omega
        · have y1 : w3.cell? ⟨g9, 1, none⟩ = some (.slice ar mr cr) := by rw [cell_of_row w3 g9 1 _ _ _ (unhide HG93)]; rfl
          go_wp2_with fail
          refine (xhash_any 77 w3).mono ?_
          rintro ee w4 ⟨ax, mx, cx, rfl, R4, K4⟩
          have G94 := K4.heap (unhide HG93) (by simp)
          have y4 : w4.cell? ⟨g9, 1, none⟩ = some (.slice ar mr cr) := by rw [cell_of_row w4 g9 1 _ _ _ G94]; rfl
          have f4 : w4.frozen? ⟨g9, 1, none⟩ = false := frozen_of_row w4 g9 1 _ _ G94
          obtain ⟨wB, hwB⟩ : ∃ x, x = w4.setCell ⟨g9, 1, none⟩ (.slice ax mx cx) := ⟨_, rfl⟩
          have KS : Kp [g9] w4 wB := by rw [hwB]; exact setCell_kp w4 g9 1 _
          have HG9B : Hid (wB.heap[g9]? = some (.cells #[.int .i64 n, .slice ax mx cx] 27 (0, 0))) := hide (by
            rw [hwB]
            have := heap_setCell_same w4 g9 1 _ _ (.slice ax mx cx) G94
            simpa using this)
          have h93 : g9 < w3.heap.size := lt_of_block (unhide HG93)
          have HKrB : Hid (Kp [] wr wB) := ((unhide HKr3).trans K4).then KS (fun i hi => .inr (by simp at hi; have := unhide H9; omega))
          have HKwB : Hid (Kp [] w wB) := (unhide HKw).trans (unhide HKrB)
          obtain ⟨rr, hrr⟩ : ∃ x, x = rootW r d := ⟨_, rfl⟩
          have HCB : Hid (CkV wB (.agg #[.int .i64 n, .slice ax mx cx]) n rr) := hide (by
            rw [hrr]
            unfold rootW
            rw [← unhide HDT]
            exact ⟨ax, mx, cx, rfl, (R4.kept KS (fun i hi => by have := R4.own i hi; simp; omega)).sl, hashX_bs 77⟩)
          have HRR := hide hrr
          have HWB := hide hwB
          have hxB0 := unhide HDR w4 ((unhide HKw).trans ((unhide HKr3).trans K4)) 0 _ rfl
          have hn9 : bd ≠ g9 := fun e => by
            have := World.block_lt_of_cell? _ _ (unhide HDR w (Kp.refl _ _) 0 _ rfl)
            have h9 := unhide H9
            have := (unhide HKw).size
            simp only at *
            omega
          clear hwB hrr KS R4 K4 G94 y1 HG93 HKr3 hx3 h93
          have hn9' : g9 ≠ bd := fun e => hn9 e.symm
          have hx0 := hxB0
          rw [Nat.add_zero] at hx0
          have hx1 : True := trivial
          have hsubo : IntKind.i64.wrap ((no : Int) - 1) = (no : Int) - 1 := by simp [IntKind.wrap, IntKind.signed, IntKind.bits]; omega
          go_wp2_with fail
          rw [← unhide HWB]
          clear hxB0 hn9 hn9' y4 f4
          refine (unhide HWH wB).mono ?_
          rintro ee wx ⟨rfl, hwx⟩
          subst wx
          obtain ⟨ao', co', e', -, hcell⟩ := (unhide HO)
          injection e' with e1 e2 e3
          subst e1
          obtain ⟨bo, oo, go, base, rfl, hxo, hOw⟩ := hcell kw hkwn
          obtain ⟨wZ, hwZ⟩ : ∃ x, x = w := ⟨_, rfl⟩
          have HOW : Hid (Ow wZ base go (seedX kw) 5) := hide (by rw [hwZ]; exact hOw)
          have HWD : Hid (∀ w', Kp [] wB.drew w' → Kp [] wZ w') := fun w' k' => by rw [hwZ]; exact (unhide HKwB).trans ((kp_drew wB).trans k')
          have HWZ := hide hwZ
          have HXO : Hid (∀ w', Kp [] wB.drew w' → w'.cell? ⟨bo, oo + kw, none⟩ = some (.pointer (some ⟨go, 0, none⟩))) := fun w' k' => (unhide HWD w' k').cell (by rw [unhide HWZ]; exact hxo) (by simp)
          have HXI : Hid (∀ w', Kp [] wB.drew w' → w'.cell? ⟨bd, od + k * 4 + 2, none⟩ = some (.int .i64 di)) := fun w' k' => unhide HDR w' (by rw [← unhide HWZ]; exact unhide HWD w' k') 2 _ rfl
          have HT9 : Hid (∀ w', Kp [] wB.drew w' → w'.heap[g9]? = some (.cells #[.int .i64 n, .slice ax mx cx] 27 (0, 0))) := fun w' k' => ((kp_drew wB).trans k').heap (unhide HG9B) (by simp)
          have HCX : Hid (∀ w', Kp [] wB.drew w' → CkV w' (.agg #[.int .i64 n, .slice ax mx cx]) n rr) := fun w' k' => (unhide HCB).kept ((kp_drew wB).trans k')
          obtain ⟨B, hB⟩ : ∃ B, B = bodW n rr := ⟨_, rfl⟩
          have HBB := hide hB
          have HBS : Hid (Bs B) := hide (by rw [hB]; obtain ⟨_, _, _, _, _, hb⟩ := unhide HCB; exact bodW_bs n rr hb)
          have HBL : Hid (B.length ≤ 1000) := hide (by rw [hB]; have := bodW_le n rr; omega)
          clear hcell hxo hOw e2 e3 hB hx0 hsubo hwZ
          go_wp2_with fail
          refine region_grow_tail 16 Tryd.mixed [Is (.int .i64 kw), Is (.slice (some ⟨bo, oo, none⟩) no co), Is (.int .i64 kw), Is (.pointer (some ⟨bo, oo + kw, none⟩)), Is (.pointer (some ⟨go, 0, none⟩)), Is (.slice (some ⟨bd, od, none⟩) nd cd), Is (.int .i64 k), Is (.pointer (some ⟨bd, od + k * 4, none⟩)), Is (.pointer (some ⟨bd, od + k * 4 + 2, none⟩)), Is (.int .i64 di), Is (.int .i64 ix), Is (.agg #[.int .i64 n, .slice ax mx cx]), SlT (B), SgQT wZ.heap.size wB.drew.heap.size ix (sgnP (seedX kw) ix (digP B)) (pthP (seedX kw) ix 4), CoQT wZ.heap.size wB.drew.heap.size ⟨kw, ix, sgnP (seedX kw) ix (digP B), pthP (seedX kw) ix 4⟩, NewX wB.drew.heap.size] [[(10, none)], [(1, none)], [(10, none)], [(40, some 1), (41, some 2)], [(42, some 3)], [(0, none)], [(8, none)], [(44, some 5), (45, some 6)], [(46, some 7)], [(47, some 8)], [(48, some 9)], [(9, none)], [(50, some 11)], [(43, some 4), (49, some 10), (51, some 12)], [(39, some 0), (52, some 13)], []] (by kernel_rfl) ?_ ?_ ?_
          all_goals try simp only [List.take_succ_cons, List.take_zero, List.drop_succ_cons, List.drop_zero]
          · simp only [List.mem_cons, List.not_mem_nil, or_false]
            intro R hR
            rcases hR with rfl | rfl | rfl | rfl | rfl | rfl | rfl | rfl | rfl | rfl | rfl | rfl | rfl | rfl | rfl | rfl <;> first | exact stable_is _ | exact stable_sl _ | exact stable_sgqt _ _ _ _ _ | exact stable_coqt _ _ _ | exact stable_newx _
          · refine steps_cons (fun a w hk hn => ?_) ?_
            · have h10 : a.eval (.tmp 10) = .int .i64 kw := hn.1
              clear hn
              refine wants_plain rfl ?_
              exact grown_move (.tmp 10) rfl h10
            refine steps_cons (fun a w hk hn => ?_) ?_
            · have h1 : a.eval (.tmp 1) = .slice (some ⟨bo, oo, none⟩) no co := hn.1
              clear hn
              refine wants_plain rfl ?_
              exact grown_move (.tmp 1) rfl h1
            refine steps_cons (fun a w hk hn => ?_) ?_
            · have h10 : a.eval (.tmp 10) = .int .i64 kw := hn.1
              clear hn
              refine wants_plain rfl ?_
              exact grown_move (.tmp 10) rfl h10
            refine steps_cons (fun a w hk hn => ?_) ?_
            · have h40 : a.eval (.tmp 40) = .slice (some ⟨bo, oo, none⟩) no co := hn.1
              have h41 : a.eval (.tmp 41) = .int .i64 kw := hn.2.1
              clear hn
              refine wants_plain rfl ?_
              refine grown_run (v := .pointer (some ⟨bo, oo + kw, none⟩)) ?_ (Kp.refl _ _) rfl
              obtain ⟨ρ, hρ, hc, hf, hg⟩ := eval_is a
              rw [hρ] at h40 h41 ⊢
              simp [go_sem, h40, h41, hkwi]
            refine steps_cons (fun a w hk hn => ?_) ?_
            · have h42 : a.eval (.tmp 42) = .pointer (some ⟨bo, oo + kw, none⟩) := hn.1
              clear hn
              refine wants_plain rfl ?_
              refine grown_run (v := .pointer (some ⟨go, 0, none⟩)) ?_ (Kp.refl _ _) rfl
              have hcell := unhide HXO w hk
              obtain ⟨ρ, hρ, hc, hf, hg⟩ := eval_is a
              rw [hρ] at h42 ⊢
              simp [go_sem, h42, hcell]
            refine steps_cons (fun a w hk hn => ?_) ?_
            · have h0 : a.eval (.tmp 0) = .slice (some ⟨bd, od, none⟩) nd cd := hn.1
              clear hn
              refine wants_plain rfl ?_
              exact grown_move (.tmp 0) rfl h0
            refine steps_cons (fun a w hk hn => ?_) ?_
            · have h8 : a.eval (.tmp 8) = .int .i64 k := hn.1
              clear hn
              refine wants_plain rfl ?_
              exact grown_move (.tmp 8) rfl h8
            refine steps_cons (fun a w hk hn => ?_) ?_
            · have h44 : a.eval (.tmp 44) = .slice (some ⟨bd, od, none⟩) nd cd := hn.1
              have h45 : a.eval (.tmp 45) = .int .i64 k := hn.2.1
              clear hn
              refine wants_plain rfl ?_
              refine grown_run (v := .pointer (some ⟨bd, od + k * 4, none⟩)) ?_ (Kp.refl _ _) rfl
              obtain ⟨ρ, hρ, hc, hf, hg⟩ := eval_is a
              rw [hρ] at h44 h45 ⊢
              simp [go_sem, h44, h45, hlti]
            refine steps_cons (fun a w hk hn => ?_) ?_
            · have h46 : a.eval (.tmp 46) = .pointer (some ⟨bd, od + k * 4, none⟩) := hn.1
              clear hn
              refine wants_plain rfl ?_
              refine grown_run (v := .pointer (some ⟨bd, od + k * 4 + 2, none⟩)) ?_ (Kp.refl _ _) rfl
              obtain ⟨ρ, hρ, hc, hf, hg⟩ := eval_is a
              rw [hρ] at h46 ⊢
              simp [go_sem, h46]
            refine steps_cons (fun a w hk hn => ?_) ?_
            · have h47 : a.eval (.tmp 47) = .pointer (some ⟨bd, od + k * 4 + 2, none⟩) := hn.1
              clear hn
              refine wants_plain rfl ?_
              refine grown_run (v := .int .i64 di) ?_ (Kp.refl _ _) rfl
              have hcell := unhide HXI w hk
              obtain ⟨ρ, hρ, hc, hf, hg⟩ := eval_is a
              rw [hρ] at h47 ⊢
              simp [go_sem, h47, hcell]
            refine steps_cons (fun a w hk hn => ?_) ?_
            · have h48 : a.eval (.tmp 48) = .int .i64 di := hn.1
              clear hn
              refine wants_plain rfl ?_
              refine grown_call (f := 18) rfl Tryd.func18 (by kernel_rfl) (by kernel_rfl) ?_
              simp only [List.map_toArray, List.map_cons, List.map_nil, h48]
              refine (unhide HWI w).mono ?_
              rintro e w' ⟨rfl, rfl⟩
              exact ⟨_, rfl, Kp.refl _ _, rfl⟩
            refine steps_cons (fun a w hk hn => ?_) ?_
            · have h9 : a.eval (.tmp 9) = .pointer (some ⟨g9, 0, none⟩) := hn.1
              clear hn
              refine wants_plain rfl ?_
              exact grown_loadf 27 (.tmp 9) rfl g9 0 h9 _ _ _ _ (unhide HT9 w hk) [.int .i64 n, .slice ax mx cx] (flat_in rfl) Tryd.underlying27 rfl Tryd.chkSize rfl
            refine steps_cons (fun a w hk hn => ?_) ?_
            · have h50 : a.eval (.tmp 50) = .agg #[.int .i64 n, .slice ax mx cx] := hn.1
              clear hn
              refine wants_plain rfl ?_
              refine grown_call (f := 16) rfl Tryd.func16 (by kernel_rfl) (by kernel_rfl) ?_
              simp only [List.map_toArray, List.map_cons, List.map_nil, h50]
              refine (rcosign_any _ n rr B (unhide HBB) w (unhide HCX w hk)).mono ?_
              rintro e w' ⟨ao, m, c, rfl, R, K⟩
              exact ⟨_, rfl, K, R⟩
            refine steps_cons (fun a w hk hn => ?_) ?_
            · have h43 : a.eval (.tmp 43) = .pointer (some ⟨go, 0, none⟩) := hn.1
              have h49 : a.eval (.tmp 49) = .int .i64 ix := hn.2.1
              have h51 : Sl w (a.eval (.tmp 51)) (B) := hn.2.2.1
              clear hn
              refine wants_plain rfl ?_
              refine grown_call (f := 27) rfl Tryd.func27 (by kernel_rfl) (by kernel_rfl) ?_
              simp only [List.map_toArray, List.map_cons, List.map_nil, h43, h49]
              refine (own_signK go base (seedX kw) ix _ B _ rfl wZ (unhide HOW) w (unhide HWD w hk) (seedX_bs _) (seedX_len _) (unhide HIX) h51 (unhide HBS) (unhide HBL)).mono ?_
              rintro e w2 ⟨v, rfl, V, K⟩
              exact ⟨_, rfl, K, fun S w3 hS k3 => V S w3 (fun q hq => ⟨(hS q hq).1, Nat.lt_of_lt_of_le (hS q hq).2 hk.size⟩) k3⟩
            refine steps_cons (fun a w hk hn => ?_) ?_
            · have h39 : a.eval (.tmp 39) = .int .i64 kw := hn.1
              have h52 : (SgQT wZ.heap.size wB.drew.heap.size ix (sgnP (seedX kw) ix (digP B)) (pthP (seedX kw) ix 4)) (a.eval (.tmp 52)) w := hn.2.1
              clear hn
              refine wants_plain rfl ?_
              exact grown_bcq (.tmp 39) (.tmp 52) rfl h39 h52
            refine steps_cons (fun a w hk hn => ?_) ?_
            · clear hn
              refine wants_plain rfl ?_
              exact grown_newx _ hk.size rfl
            exact trivial
          intro W1 hkW1
          rintro _ rfl
          rintro _ rfl
          rintro _ rfl
          rintro _ rfl
          rintro _ rfl
          rintro _ rfl
          rintro _ rfl
          rintro _ rfl
          rintro _ rfl
          rintro _ rfl
          rintro _ rfl
          rintro _ rfl
          intro v51 h51
          intro v52 h52
          intro v53 h53
          intro v11 h11
          refine fin_nil ?_
          simp only [Act.put, List.set_cons_zero, List.set_cons_succ, List.setIfInBounds_toArray]
          have hV := CoQ.v h53
          obtain ⟨ap, np, cp, aq, nq, cq, ev, -⟩ := id hV
          simp only at ev
          subst ev
          obtain ⟨g11, e11, hIs, hge⟩ := h11
          subst e11
          obtain ⟨iix, iiy, ia2, in2, ic2, ia3, in3, ic3, G11⟩ := id hIs
          have hwB11 : wB.drew.heap.size = wB.heap.size := rfl
          rw [hwB11] at hge
          have HDW : Hid ((⟨kw, ix, sgnP (seedX kw) ix (digP B), pthP (seedX kw) ix 4⟩ : Co) = ⟨kw, (drW no n r d).i, (drW no n r d).ps, (drW no n r d).qs⟩) := hide (by
            rw [unhide HBB, unhide HRR, unhide HIXE, unhide HKWE]
            rfl)
          have hbig : Co.big ⟨kw, ix, sgnP (seedX kw) ix (digP B), pthP (seedX kw) ix 4⟩ := by
            have h := drW_big no n r d
            rw [unhide HDW]
            exact h
          have HV1 : Hid (CoQ (fun q => wZ.heap.size ≤ q ∧ q < wB.heap.size) W1 (.agg #[.int .i64 kw, .int .i64 ix, .slice ap np cp, .slice aq nq cq]) ⟨kw, ix, sgnP (seedX kw) ix (digP B), pthP (seedX kw) ix 4⟩) := h53
          have HIS := hide hIs
          have HBIG := hide hbig
          have HKB1 := hide ((kp_drew wB).trans hkW1)
          have HGE := hide hge
          clear h51 h52 h53 hV hIs hbig hge HXO HT9 HXI HCX hkW1 HOW
          have hx1' := unhide HDR W1 ((unhide HKwB).trans (unhide HKB1)) 1 _ rfl
          go_wp2_with (refine wpList_store_flat rfl 33 (.tmp 11) (.tmp 53) rfl g11 0 rfl _ _ [.int .i64 kw, .int .i64 ix, .slice ap np cp, .slice aq nq cq] G11 rfl (by simp) Tryd.cosSize (by simp [Value.oneCell']) #[.int .i64 kw, .int .i64 ix, .slice ap np cp, .slice aq nq cq] rfl ?_; intro w7 G7 K7; refine Hid.out ?_)
          have HKB7 : Hid (Kp [] wB w7) := (unhide HKB1).then K7 (fun i hi => .inr (by simp at hi; have := unhide HGE; omega))
          have HV7 : Hid (CoQ (fun q => wZ.heap.size ≤ q ∧ q < wB.heap.size) w7 (.agg #[.int .i64 kw, .int .i64 ix, .slice ap np cp, .slice aq nq cq]) ⟨kw, ix, sgnP (seedX kw) ix (digP B), pthP (seedX kw) ix 4⟩) := hide ((unhide HV1).off4 (unhide HBIG) (fun h => by have := unhide HGE; omega) (unhide HIS) K7)
          have HG7 := hide G7
          have hx17 := unhide HDR w7 ((unhide HKwB).trans (unhide HKB7)) 1 _ rfl
          clear G11 G7 K7 HV1 HIS HKB1 hx1 hx1'
          refine hide ?_
          by_cases hsd : ds.tmod 4 = 0
          · have HDW2 : Hid (drW no n r d = ⟨ds, ix, sgnP (seedX kw) ix (digP B), pthP (seedX kw) ix 4⟩) := hide (by
              have h := unhide HDW
              injection h with _ h1 h2 h3
              have hk : (drW no n r d).k = ds := by
                show (if d.said.tmod 4 = 0 then d.said else _) = ds
                rw [← unhide HDS, if_pos hsd]
              have e : drW no n r d = ⟨(drW no n r d).k, (drW no n r d).i, (drW no n r d).ps, (drW no n r d).qs⟩ := rfl
              rw [e, hk, ← h1, ← h2, ← h3])
            have e0 : w7.cell? ⟨g11, 0, none⟩ = some (.int .i64 kw) := by rw [cell_of_row w7 g11 0 _ _ _ (unhide HG7)]; rfl
            have f0 : w7.frozen? ⟨g11, 0, none⟩ = false := frozen_of_row w7 g11 0 _ _ (unhide HG7)
            obtain ⟨w8, hw8⟩ : ∃ x, x = w7.setCell ⟨g11, 0, none⟩ (.int .i64 ds) := ⟨_, rfl⟩
            have G8 : w8.heap[g11]? = some (.cells #[.int .i64 ds, .int .i64 ix, .slice ap np cp, .slice aq nq cq] 33 (0, 0)) := by
              rw [hw8]
              have := heap_setCell_same w7 g11 0 _ _ (.int .i64 ds) (unhide HG7)
              simpa using this
            have K78 : Kp [g11] w7 w8 := by rw [hw8]; exact setCell_kp w7 g11 0 _
            have hg11 := unhide HGE
            have HK8 : Hid (Kp [] wB w8) := (unhide HKB7).then K78 (fun i hi => .inr (by simp at hi; omega))
            have HV8 : Hid (CoQ (fun q => wZ.heap.size ≤ q ∧ q < wB.heap.size) w8 (.agg #[.int .i64 ds, .int .i64 ix, .slice ap np cp, .slice aq nq cq]) (drW no n r d)) := hide (by
              rw [unhide HDW2]
              exact ((unhide HV7).off4 (unhide HBIG) (by omega) ⟨_, _, _, _, _, _, _, _, unhide HG7⟩ K78).said)
            have HW8 := hide hw8
            have x0 : w7.cell? ⟨g11, 1, none⟩ = some (.int .i64 ix) := by rw [cell_of_row w7 g11 1 _ _ _ (unhide HG7)]; rfl
            have x1 : w7.cell? ⟨g11, 2, none⟩ = some (.slice ap np cp) := by rw [cell_of_row w7 g11 2 _ _ _ (unhide HG7)]; rfl
            have x2 : w7.cell? ⟨g11, 3, none⟩ = some (.slice aq nq cq) := by rw [cell_of_row w7 g11 3 _ _ _ (unhide HG7)]; rfl
            have hwb := hwB11
            obtain ⟨kd, hkd⟩ : ∃ x, x = ds := ⟨_, rfl⟩
            clear hkd K78 G8
            obtain ⟨wL, hwL⟩ : ∃ x, x = (w7.setCell ⟨g11, 0, none⟩ (.int .i64 ds)).alloc (.cells #[.int .i64 ds, .int .i64 ix, .slice ap np cp, .slice aq nq cq] 33) := ⟨_, rfl⟩
            have KL : Kp [] w8 wL := by rw [hwL, unhide HW8]; exact (Kp.refl [] _).alloc _
            have GL : wL.heap[w8.heap.size]? = some (.cells #[.int .i64 ds, .int .i64 ix, .slice ap np cp, .slice aq nq cq] 33 (0, 0)) := by rw [hwL, unhide HW8]; exact heap_alloc_new _ _
            have HKL : Hid (Kp [] wr wL) := ((unhide HKrB).trans (unhide HK8)).trans KL
            have HP : Hid (∀ w3, Kp (Value.slice ao m c).ownBlock.toList wL w3 → CoP (mdW no n r l) k w3 [.int .i64 ds, .int .i64 ix, .slice ap np cp, .slice aq nq cq]) := fun w3 k3 => by
              show CoV w3 _ ((mdW no n r l).getD k co0)
              rw [unhide HMD]
              exact unhide HV8 _ w3 (fun q hq => ⟨by rw [unhide HWZ]; exact Nat.le_trans (unhide HK1).size ((unhide HR).own q (by simpa using hq)).1, Nat.lt_of_lt_of_le ((unhide HR).own q (by simpa using hq)).2 (unhide HKrB).size⟩) ((KL.mono (by simp)).trans k3)
            have hzz : w7.heap.size = w8.heap.size := by rw [unhide HW8]; simp
            have hNW : ∀ j u, [[.int .i64 ds, .int .i64 ix, .slice ap np cp, .slice aq nq cq]].flatten[j]? = some u → ((w7.setCell ⟨g11, 0, none⟩ (.int .i64 ds)).alloc (.cells #[.int .i64 ds, .int .i64 ix, .slice ap np cp, .slice aq nq cq] 33)).cell? ((⟨w7.heap.size, 0, none⟩ : Addr).add j) = some u := by
              rw [← hwL, hzz]
              exact news_one _ _ _ _ _ GL
            have HKL2 : Hid (Kp [] wr ((w7.setCell ⟨g11, 0, none⟩ (.int .i64 ds)).alloc (.cells #[.int .i64 ds, .int .i64 ix, .slice ap np cp, .slice aq nq cq] 33))) := hide (by rw [← hwL]; exact unhide HKL)
            have HP2 : Hid (∀ w3, Kp (Value.slice ao m c).ownBlock.toList ((w7.setCell ⟨g11, 0, none⟩ (.int .i64 ds)).alloc (.cells #[.int .i64 ds, .int .i64 ix, .slice ap np cp, .slice aq nq cq] 33)) w3 → CoP (mdW no n r l) k w3 [.int .i64 ds, .int .i64 ix, .slice ap np cp, .slice aq nq cq]) := hide (by rw [← hwL]; exact unhide HP)
            clear KL GL hwL HP HKL hzz
            go_wp2_with (at_builtin; refine wpList_rowq Tryd.infoCos rfl (by decide) (by decide) Tryd.underlying28 rfl (.tmp 67) (.tmp 69) rfl rfl (unhide HR) (unhide HKL2) ⟨w7.heap.size, 0, none⟩ 1 1 [[.int .i64 ds, .int .i64 ix, .slice ap np cp, .slice aq nq cq]] rfl rfl (by simp) hNW (by simp [Value.oneCell']) (by omega) (fun j hj w3 k3 => one_at hj (unhide HP2 w3 k3)) ?_; intro a5 m5 c5 w5 hm5 R5; refine Hid.out ?_)
            subst hm5
            have HR5 := hide R5
            clear R5 hNW HP2 HKL2
            refine hide ?_
            go_wp2_with fail
            go_roundw
            case rel => exact ⟨k + 1, a5, k + 1, c5, by omega, by omega, by go_num, rfl, rfl, unhide HR5⟩
            case measure => simp [intOf]; omega
          · have HDW2 : Hid (drW no n r d = ⟨kw, ix, sgnP (seedX kw) ix (digP B), pthP (seedX kw) ix 4⟩) := hide (by
              have h := unhide HDW
              injection h with _ h1 h2 h3
              have hk : (drW no n r d).k = kw := by
                show (if d.said.tmod 4 = 0 then d.said else _) = (kw : Int)
                rw [← unhide HDS, if_neg hsd, unhide HKWE]
              have e : drW no n r d = ⟨(drW no n r d).k, (drW no n r d).i, (drW no n r d).ps, (drW no n r d).qs⟩ := rfl
              rw [e, hk, ← h1, ← h2, ← h3])
            have hg11 := unhide HGE
            have x9 : w7.cell? ⟨g11, 0, none⟩ = some (.int .i64 kw) := by rw [cell_of_row w7 g11 0 _ _ _ (unhide HG7)]; rfl
            have x0 : w7.cell? ⟨g11, 1, none⟩ = some (.int .i64 ix) := by rw [cell_of_row w7 g11 1 _ _ _ (unhide HG7)]; rfl
            have x1 : w7.cell? ⟨g11, 2, none⟩ = some (.slice ap np cp) := by rw [cell_of_row w7 g11 2 _ _ _ (unhide HG7)]; rfl
            have x2 : w7.cell? ⟨g11, 3, none⟩ = some (.slice aq nq cq) := by rw [cell_of_row w7 g11 3 _ _ _ (unhide HG7)]; rfl
            have HV8 : Hid (CoQ (fun q => wZ.heap.size ≤ q ∧ q < wB.heap.size) w7 (.agg #[.int .i64 kw, .int .i64 ix, .slice ap np cp, .slice aq nq cq]) (drW no n r d)) := hide (by rw [unhide HDW2]; exact unhide HV7)
            obtain ⟨wL, hwL⟩ : ∃ x, x = w7.alloc (.cells #[.int .i64 kw, .int .i64 ix, .slice ap np cp, .slice aq nq cq] 33) := ⟨_, rfl⟩
            have KL : Kp [] w7 wL := by rw [hwL]; exact (Kp.refl [] _).alloc _
            have GL : wL.heap[w7.heap.size]? = some (.cells #[.int .i64 kw, .int .i64 ix, .slice ap np cp, .slice aq nq cq] 33 (0, 0)) := by rw [hwL]; exact heap_alloc_new _ _
            have HKL : Hid (Kp [] wr wL) := ((unhide HKrB).trans (unhide HKB7)).trans KL
            have HP : Hid (∀ w3, Kp (Value.slice ao m c).ownBlock.toList wL w3 → CoP (mdW no n r l) k w3 [.int .i64 kw, .int .i64 ix, .slice ap np cp, .slice aq nq cq]) := fun w3 k3 => by
              show CoV w3 _ ((mdW no n r l).getD k co0)
              rw [unhide HMD]
              exact unhide HV8 _ w3 (fun q hq => ⟨by rw [unhide HWZ]; exact Nat.le_trans (unhide HK1).size ((unhide HR).own q (by simpa using hq)).1, Nat.lt_of_lt_of_le ((unhide HR).own q (by simpa using hq)).2 (unhide HKrB).size⟩) ((KL.mono (by simp)).trans k3)
            have hzz : w7.heap.size = w7.heap.size := by rfl
            have hNW : ∀ j u, [[.int .i64 kw, .int .i64 ix, .slice ap np cp, .slice aq nq cq]].flatten[j]? = some u → (w7.alloc (.cells #[.int .i64 kw, .int .i64 ix, .slice ap np cp, .slice aq nq cq] 33)).cell? ((⟨w7.heap.size, 0, none⟩ : Addr).add j) = some u := by
              rw [← hwL, hzz]
              exact news_one _ _ _ _ _ GL
            have HKL2 : Hid (Kp [] wr (w7.alloc (.cells #[.int .i64 kw, .int .i64 ix, .slice ap np cp, .slice aq nq cq] 33))) := hide (by rw [← hwL]; exact unhide HKL)
            have HP2 : Hid (∀ w3, Kp (Value.slice ao m c).ownBlock.toList (w7.alloc (.cells #[.int .i64 kw, .int .i64 ix, .slice ap np cp, .slice aq nq cq] 33)) w3 → CoP (mdW no n r l) k w3 [.int .i64 kw, .int .i64 ix, .slice ap np cp, .slice aq nq cq]) := hide (by rw [← hwL]; exact unhide HP)
            clear KL GL hwL HP HKL hzz
            go_wp2_with (at_builtin; refine wpList_rowq Tryd.infoCos rfl (by decide) (by decide) Tryd.underlying28 rfl (.tmp 67) (.tmp 69) rfl rfl (unhide HR) (unhide HKL2) ⟨w7.heap.size, 0, none⟩ 1 1 [[.int .i64 kw, .int .i64 ix, .slice ap np cp, .slice aq nq cq]] rfl rfl (by simp) hNW (by simp [Value.oneCell']) (by omega) (fun j hj w3 k3 => one_at hj (unhide HP2 w3 k3)) ?_; intro a5 m5 c5 w5 hm5 R5; refine Hid.out ?_)
            subst hm5
            have HR5 := hide R5
            clear R5 hNW HP2 HKL2
            refine hide ?_
            go_wp2_with fail
            go_roundw
            case rel => exact ⟨k + 1, a5, k + 1, c5, by omega, by omega, by go_num, rfl, rfl, unhide HR5⟩
            case measure => simp [intOf]; omega
      · have hl6i : ¬ (k : Int) < 6 := by omega
        have hml : m = (mdW no n r l).length := by rw [mdW_len, ← unhide HND, unhide HMK]; omega
        have HML := hide hml
        have HKE : Hid (k = (mdW no n r l).length) := hide (by rw [mdW_len, ← unhide HND]; omega)
        clear hml
        go_wp2_with fail
        go_ret
        refine ⟨ao, m, c, rfl, unhide HML, ?_⟩
        have := (unhide HR).after (unhide HK1)
        rw [← unhide HKE]
        exact this
    · have hlti : ¬ (k : Int) < (nd : Int) := by omega
      have hml : m = (mdW no n r l).length := by rw [mdW_len, ← unhide HND, unhide HMK]; omega
      have HML := hide hml
      have HKE : Hid (k = (mdW no n r l).length) := hide (by rw [mdW_len, ← unhide HND]; omega)
      clear hml
      go_wp2_with fail
      go_ret
      refine ⟨ao, m, c, rfl, unhide HML, ?_⟩
      have := (unhide HR).after (unhide HK1)
      rw [← unhide HKE]
      exact this
end Go.Proofs.YtdjofooggofpkaaDoor

/-
  Policies, cosignatures and lists of draws that are handed in, whatever they are.
-/
namespace Go.Proofs.YtdjofooggofpkaaDoor
open Go.ChangeShapes Go.WideShapes Go.ChangeAt Go.RowKit
open Go.Deep
section
variable {H : Type} {enc : TypeId × Value → H} {w : World}
theorem Tryd.drawFields : ∃ f0 f1 f2 f3, Tryd.prog.underlying 78 = some (.struct #[f0, f1, f2, f3]) ∧ (f0.offset = 0 ∧ f1.offset = 1 ∧ f2.offset = 2 ∧ f3.offset = 3) ∧ (f0.type = 3 ∧ f1.type = 3 ∧ f2.type = 3 ∧ f3.type = 4) :=
  ⟨_, _, _, _, Tryd.underlying78, ⟨rfl, rfl, rfl, rfl⟩, ⟨rfl, rfl, rfl, rfl⟩⟩
theorem Tryd.cellsDraw : Tryd.prog.cellsOf 78 = 4 := by kernel_rfl
theorem Tryd.cellsInt1 : Tryd.prog.cellsOf 3 = 1 := by kernel_rfl
theorem Tryd.cellsBool1 : Tryd.prog.cellsOf 4 = 1 := by kernel_rfl
theorem draw_of_trod {a : Addr} {cs : List Value} {n : Nat} {x : DataW H × List MemPlace} (hc : w.cells? 0 a 4 = some cs) (h : DataW.trod enc Tryd.prog w 0 (fun _ => true) true n 78 cs = some x) :
    a.spot = none ∧ ∃ d : Dr, w.rangeAt a.block a.off [.int .i64 d.who, .int .i64 d.said, .int .i64 d.idx, .bool d.oth] := by
  obtain ⟨f0, f1, f2, f3, hu, ⟨o0, o1, o2, o3⟩, ⟨t0, t1, t2, t3⟩⟩ := Tryd.drawFields
  obtain ⟨y0, y1, y2, y3, m, _, hl, h0, h1, h2, h3⟩ := Go.Joins.trod_struct4 hu h
  obtain ⟨_, hlen, hcell⟩ := World.cells?_some hc
  rw [o0, t0, Tryd.cellsInt1] at h0
  rw [o1, t1, Tryd.cellsInt1] at h1
  rw [o2, t2, Tryd.cellsInt1] at h2
  rw [o3, t3, Tryd.cellsBool1] at h3
  match cs, hlen with
  | [c0, c1, c2, c3], _ =>
    simp only [List.drop_zero, List.drop_succ_cons, List.take_succ_cons, List.take_zero] at h0 h1 h2 h3
    obtain ⟨x0, e0, _, _⟩ := DataW.trod_int Tryd.underlying3 h0
    obtain ⟨x1, e1, _, _⟩ := DataW.trod_int Tryd.underlying3 h1
    obtain ⟨x2, e2, _, _⟩ := DataW.trod_int Tryd.underlying3 h2
    obtain ⟨x3, e3, _⟩ := DataW.trod_bool Tryd.underlying4 h3
    simp only [List.cons.injEq, and_true] at e0 e1 e2 e3
    subst e0 e1 e2 e3
    obtain ⟨b, off, spot⟩ := a
    have k0 := hcell 0 (by omega)
    have hspot : ((⟨b, off, spot⟩ : Addr).add 0).spot = none := World.cell?_spot (v := .int .i64 x0) (by simpa using k0)
    have hspot' : spot = none := by rw [Addr.add_zero'] at hspot; exact hspot
    subst hspot'
    refine ⟨rfl, ⟨x0, x1, x2, x3⟩, fun j u hu => ?_⟩
    have hj : j < 4 := by have := (List.getElem?_eq_some_iff.1 hu).1; simpa using this
    have kj := hcell j (by omega)
    rw [Addr.add_lit] at kj
    have : j = 0 ∨ j = 1 ∨ j = 2 ∨ j = 3 := by omega
    rcases this with rfl | rfl | rfl | rfl <;> (simp at hu; subst hu; simpa using kj)
theorem draws_of_trod {v : Value} {fuel : Nat} {x : DataW H × List MemPlace} (h : DataW.trod enc Tryd.prog w 0 (fun _ => true) true fuel 49 [v] = some x) : ∃ l, DrL w v l := by
  rcases open_slice Tryd.underlying49 h with ⟨hcs, _⟩ | ⟨a, len, cap, m, n, D, Pl, hcs, _, hl, hm, hmm, _, hx⟩
  · simp only [List.cons.injEq, and_true] at hcs
    subst hcs
    exact ⟨[], none, 0, rfl, by simp, fun i hi => by cases hi⟩
  · simp only [List.cons.injEq, and_true] at hcs
    subst hcs
    simp only [if_true] at hmm
    subst hmm
    rw [Tryd.cellsDraw] at hx
    have key : ∀ i, i < len → ∃ d : Dr, (a.add (i * 4)).spot = none ∧ w.rangeAt (a.add (i * 4)).block (a.add (i * 4)).off [.int .i64 d.who, .int .i64 d.said, .int .i64 d.idx, .bool d.oth] := fun i hi => by
      obtain ⟨cs', h1, h2⟩ := hx i (by omega)
      obtain ⟨e, d, hd⟩ := draw_of_trod h1 h2
      exact ⟨d, e, hd⟩
    have inst : Inhabited Dr := ⟨⟨0, 0, 0, false⟩⟩
    obtain ⟨F, hF⟩ := @choose_lt Dr inst len (fun i d => (a.add (i * 4)).spot = none ∧ w.rangeAt (a.add (i * 4)).block (a.add (i * 4)).off [.int .i64 d.who, .int .i64 d.said, .int .i64 d.idx, .bool d.oth]) key
    have hlen : ((List.range len).map F).length = len := by simp
    refine ⟨(List.range len).map F, some a, m, by rw [hlen], by rw [hlen]; unfold maxLen at hm; omega, fun i hi => ?_⟩
    rw [hlen] at hi
    obtain ⟨s0, _⟩ := hF 0 (by omega)
    obtain ⟨si, hA⟩ := hF i hi
    obtain ⟨b, off, spot⟩ := a
    have hspot : spot = none := by simpa [Addr.add] using s0
    subst hspot
    rw [Addr.add_lit] at hA
    have hg : ((List.range len).map F)[i]'(by rw [hlen]; exact hi) = F i := by simp
    rw [hg]
    exact ⟨b, off, rfl, hA⟩
/-- v is some policy that was handed in. -/
def PoR (w : World) (v : Value) : Prop := ∃ al ml cl aw mw cw q lg l, v = .agg #[.slice al ml cl, .slice aw mw cw, .int .i64 q] ∧ (Sl w (.slice al ml cl) lg ∧ Bs lg) ∧ Lists w (.slice aw mw cw) l
set_option maxRecDepth 100000 in
theorem pol_open {base : Nat} {v : Value} {d : DataW H} {p : List MemPlace} (hv : Value.okWide Tryd.prog w .any base 42 v) (h : DataW.Trod enc Tryd.prog w 0 (fun _ => true) true 42 v d p) : PoR w v := by
  obtain ⟨va, vb, vc, y0, y1, y2, n, rfl, _, _, t0, t1, t2⟩ := Go.Joins.open_agg3 Tryd.underlying42 (by kernel_rfl) (by kernel_rfl) hv h
  obtain ⟨lg, sl, bl⟩ := bytes_of_trod t0
  obtain ⟨l, hl⟩ := lists_of_trod t1
  obtain ⟨q, e2, _, _⟩ := DataW.trod_int Tryd.underlying3 t2
  simp only [List.cons.injEq, and_true] at e2
  subst e2
  obtain ⟨al, cl, el, rl⟩ := sl
  subst el
  obtain ⟨aw, cw, ew, rw1⟩ := hl
  subst ew
  exact ⟨al, _, cl, aw, _, cw, q, lg, l, rfl, ⟨⟨al, cl, rfl, rl⟩, bl⟩, ⟨aw, cw, rfl, rw1⟩⟩
end
end Go.Proofs.YtdjofooggofpkaaDoor
