/-
  What Lead and Leads tell, as plain functions.
-/
import Derived.Test.YtphhofgjnlfjmaaDoorKPRight
import Derived.Test.YtphhofgjnlfjmaaDoorKPSpecs
import Derived.Test.YtphhofgjnlfjmaaDoorKLOnes
namespace Go.Proofs.YtphhofgjnlfjmaaDoor

/-- may Lead tell a root? -/
def ledOk (i n : Int) (ps : List (List Int)) (x : List Int) : Bool := rightP ps && ((x.length == 32) && (decide (0 ≤ i ∧ i < n) && (ps.length == cntP n.toNat i.toNat)))
theorem ledOk_iff {i n : Int} {ps : List (List Int)} {x : List Int} : ledOk i n ps x = true ↔ rightP ps = true ∧ x.length = 32 ∧ (0 ≤ i ∧ i < n) ∧ ps.length = cntP n.toNat i.toNat := by simp [ledOk]
theorem ledOk_not {i n : Int} {ps : List (List Int)} {x : List Int} (h : ¬ (rightP ps = true ∧ x.length = 32 ∧ (0 ≤ i ∧ i < n) ∧ ps.length = cntP n.toNat i.toNat)) : ledOk i n ps x = false := Bool.eq_false_iff.2 (fun hc => h (ledOk_iff.1 hc))
/-- the root that Lead tells. -/
def ledR (i n : Int) (ps : List (List Int)) (x : List Int) : List Int := if ledOk i n ps x then leadP n.toNat i.toNat ps x else []
theorem ledR_no {i n : Int} {ps : List (List Int)} {x : List Int} (h : ledOk i n ps x = false) : ledR i n ps x = [] := by unfold ledR; rw [h]; rfl
theorem ledR_ok {i n : Int} {ps : List (List Int)} {x : List Int} (h : ledOk i n ps x = true) : ledR i n ps x = leadP n.toNat i.toNat ps x := by unfold ledR; rw [h]; rfl
/-- may Leads tell roots? -/
def ldsOk (i n : Int) (ps : List (List Int)) (x : List Int) : Bool := rightP ps && ((x.length == 32) && (decide (0 < i ∧ i < n) && (ps.length == lenP i.toNat n.toNat true)))
theorem ldsOk_iff {i n : Int} {ps : List (List Int)} {x : List Int} : ldsOk i n ps x = true ↔ rightP ps = true ∧ x.length = 32 ∧ (0 < i ∧ i < n) ∧ ps.length = lenP i.toNat n.toNat true := by simp [ldsOk]
theorem ldsOk_not {i n : Int} {ps : List (List Int)} {x : List Int} (h : ¬ (rightP ps = true ∧ x.length = 32 ∧ (0 < i ∧ i < n) ∧ ps.length = lenP i.toNat n.toNat true)) : ldsOk i n ps x = false := Bool.eq_false_iff.2 (fun hc => h (ldsOk_iff.1 hc))
def ldsR1 (i n : Int) (ps : List (List Int)) (x : List Int) : List Int := if ldsOk i n ps x then (ldsP i.toNat n.toNat true ps x).1 else []
def ldsR2 (i n : Int) (ps : List (List Int)) (x : List Int) : List Int := if ldsOk i n ps x then (ldsP i.toNat n.toNat true ps x).2 else []
theorem ldsR_no {i n : Int} {ps : List (List Int)} {x : List Int} (h : ldsOk i n ps x = false) : ldsR1 i n ps x = [] ∧ ldsR2 i n ps x = [] := by unfold ldsR1 ldsR2; rw [h]; exact ⟨rfl, rfl⟩
theorem ldsR_ok {i n : Int} {ps : List (List Int)} {x : List Int} (h : ldsOk i n ps x = true) : ldsR1 i n ps x = (ldsP i.toNat n.toNat true ps x).1 ∧ ldsR2 i n ps x = (ldsP i.toNat n.toNat true ps x).2 := by unfold ldsR1 ldsR2; rw [h]; exact ⟨rfl, rfl⟩
theorem ledR_bs {i n : Int} {ps : List (List Int)} {x : List Int} (hx : Bs x) : Bs (ledR i n ps x) := by
  unfold ledR
  split
  · exact leadP_all Bs sha_bs _ _ _ _ hx
  · intro b hb; cases hb
theorem ldsR_bs {i n : Int} {ps : List (List Int)} {x : List Int} (hp : ∀ y ∈ ps, Bs y) (hx : Bs x) : Bs (ldsR1 i n ps x) ∧ Bs (ldsR2 i n ps x) := by
  by_cases h : ldsOk i n ps x = true
  · rw [(ldsR_ok h).1, (ldsR_ok h).2]
    obtain ⟨_, _, hr, hl⟩ := ldsOk_iff.1 h
    exact ldsP_all Bs sha_bs n.toNat i.toNat true ps x (by omega) (by omega) hl hp hx
  · rw [(ldsR_no (Bool.eq_false_iff.2 h)).1, (ldsR_no (Bool.eq_false_iff.2 h)).2]
    exact ⟨fun b hb => (by cases hb), fun b hb => (by cases hb)⟩
end Go.Proofs.YtphhofgjnlfjmaaDoor

/-
  What Check and CheckGrow tell, as plain functions.
-/
namespace Go.Proofs.YtphhofgjnlfjmaaDoor

/-- the same bytes? -/
def eqP (a b : List Int) : Bool := (strOfNums a).toList == (strOfNums b).toList
theorem eqP_self (a : List Int) : eqP a a = true := by simp [eqP]
def chkP (i n : Int) (ps : List (List Int)) (x r : List Int) : Bool := ledOk i n ps x && eqP (ledR i n ps x) r
def cgrP (i n : Int) (ps : List (List Int)) (x r : List Int) : Bool :=
  if i < 0 ∨ n < i then false
  else if i = n then (ps.length == 0) && ((x.length == 32) && eqP x r)
  else if i = 0 then (ps.length == 0) && ((r.length == 32) && eqP x (sha []))
  else ldsOk i n ps x && (eqP (ldsR1 i n ps x) x && eqP (ldsR2 i n ps x) r)
theorem cgrP_no {i n : Int} {ps : List (List Int)} {x r : List Int} (h : i < 0 ∨ n < i) : cgrP i n ps x r = false := if_pos h
theorem cgrP_same {i : Int} {ps : List (List Int)} {x r : List Int} (h : 0 ≤ i) : cgrP i i ps x r = ((ps.length == 0) && ((x.length == 32) && eqP x r)) := by
  unfold cgrP
  rw [if_neg (by omega), if_pos rfl]
theorem cgrP_zero {n : Int} {ps : List (List Int)} {x r : List Int} (h : 0 < n) : cgrP 0 n ps x r = ((ps.length == 0) && ((r.length == 32) && eqP x (sha []))) := by
  unfold cgrP
  rw [if_neg (by omega), if_neg (by omega), if_pos rfl]
theorem cgrP_more {i n : Int} {ps : List (List Int)} {x r : List Int} (h : 0 < i) (h2 : i < n) : cgrP i n ps x r = (ldsOk i n ps x && (eqP (ldsR1 i n ps x) x && eqP (ldsR2 i n ps x) r)) := by
  unfold cgrP
  rw [if_neg (by omega), if_neg (by omega), if_neg (by omega)]
end Go.Proofs.YtphhofgjnlfjmaaDoor

/-
  What is made checks: P8.4 as facts of plain functions.
-/
namespace Go.Proofs.YtphhofgjnlfjmaaDoor

theorem right_of {ps : List (List Int)} (h : ps.length ≤ 16) (h32 : ∀ x ∈ ps, x.length = 32) : rightP ps = true := rightP_iff.2 ⟨h, h32⟩
section
variable {ls : List (List Int)}
theorem incP_32 (h32 : ∀ x ∈ ls, x.length = 32) (i : Nat) : ∀ x ∈ incP ls i, x.length = 32 := incP_all (fun z => z.length = 32) sha_len _ ls i rfl h32
theorem incP_bs (hb : ∀ x ∈ ls, Bs x) (i : Nat) : ∀ x ∈ incP ls i, Bs x := incP_all Bs sha_bs _ ls i rfl hb
theorem incP_rgt (h32 : ∀ x ∈ ls, x.length = 32) (hn : ls.length ≤ 1000) (i : Nat) : rightP (incP ls i) = true := right_of (by rw [incP_len _ ls i rfl]; have := cntP_le 10 ls.length i (by omega); omega) (incP_32 h32 i)
/-- a proof of leaf i leads, whatever hash is shown. -/
theorem ledOk_inc {i : Nat} {x : List Int} (h32 : ∀ x ∈ ls, x.length = 32) (hn : ls.length ≤ 1000) (hi : i < ls.length) (hx : x.length = 32) : ledOk i ls.length (incP ls i) x = true :=
  ledOk_iff.2 ⟨incP_rgt h32 hn i, hx, ⟨by omega, by omega⟩, by rw [Int.toNat_natCast, Int.toNat_natCast]; exact incP_len _ ls i rfl⟩
theorem ledR_set {i : Nat} {x : List Int} (h32 : ∀ x ∈ ls, x.length = 32) (hn : ls.length ≤ 1000) (hi : i < ls.length) (hx : x.length = 32) : ledR i ls.length (incP ls i) x = trootP (ls.set i x) := by
  rw [ledR_ok (ledOk_inc h32 hn hi hx), Int.toNat_natCast, Int.toNat_natCast]
  exact leadP_inc _ ls i x rfl hi
theorem ledR_inc {i : Nat} {x : List Int} (h32 : ∀ x ∈ ls, x.length = 32) (hn : ls.length ≤ 1000) (hx : ls[i]? = some x) : ledR i ls.length (incP ls i) x = trootP ls := by
  obtain ⟨hi, e⟩ := List.getElem?_eq_some_iff.1 hx
  have hxl : x.length = 32 := h32 x (List.mem_of_getElem? hx)
  rw [ledR_ok (ledOk_inc h32 hn hi hxl), Int.toNat_natCast, Int.toNat_natCast]
  exact leadP_own rfl hx
theorem chkP_inc {i : Nat} {x : List Int} (h32 : ∀ x ∈ ls, x.length = 32) (hn : ls.length ≤ 1000) (hx : ls[i]? = some x) : chkP i ls.length (incP ls i) x (trootP ls) = true := by
  obtain ⟨hi, e⟩ := List.getElem?_eq_some_iff.1 hx
  have hxl : x.length = 32 := h32 x (List.mem_of_getElem? hx)
  unfold chkP
  rw [ledOk_inc h32 hn hi hxl, ledR_inc h32 hn hx, eqP_self]; rfl
theorem growP_32 (h32 : ∀ x ∈ ls, x.length = 32) {m : Nat} (hm : m ≤ ls.length) : ∀ x ∈ growP m ls, x.length = 32 := by
  unfold growP
  split
  · intro x hx; cases hx
  · exact subP_all (fun z => z.length = 32) sha_len _ m ls true rfl (by omega) hm h32
theorem sha_bs_nil : eqP (sha []) (sha []) = true := eqP_self _
/-- a growth that was made checks. -/
theorem cgrP_grow {m : Nat} (h32 : ∀ x ∈ ls, x.length = 32) (hn : ls.length ≤ 1000) (hm : m ≤ ls.length) : cgrP m ls.length (growP m ls) (trootP (ls.take m)) (trootP ls) = true := by
  have hr := trootP_len ls h32
  have h32t : ∀ x ∈ ls.take m, x.length = 32 := fun x hx => h32 x (List.mem_of_mem_take hx)
  have hrt := trootP_len (ls.take m) h32t
  by_cases he : m = ls.length
  · rw [he, cgrP_same (by omega), growP_all, List.take_length, hr, eqP_self]; rfl
  · by_cases h0 : m = 0
    · subst h0
      rw [show ((0 : Nat) : Int) = 0 from rfl, cgrP_zero (by omega), growP_zero, hr, List.take_zero, trootP_nil, eqP_self]; rfl
    · have hp : 1 ≤ m := by omega
      have hl : (growP m ls).length = lenP m ls.length true := by rw [growP_pos hp, subP_len _ m ls true rfl hp hm]
      have hok : ldsOk m ls.length (growP m ls) (trootP (ls.take m)) = true := ldsOk_iff.2 ⟨right_of (by rw [hl]; have := lenP_le 10 m ls.length true hp hm (by omega); omega) (growP_32 h32 hm), hrt, ⟨by omega, by omega⟩, by rw [Int.toNat_natCast, Int.toNat_natCast]; exact hl⟩
      have hs := ldsP_sub _ m ls true (trootP (ls.take m)) rfl hp hm (fun _ => rfl)
      rw [cgrP_more (by omega) (by omega), hok, (ldsR_ok hok).1, (ldsR_ok hok).2, Int.toNat_natCast, Int.toNat_natCast, growP_pos hp, hs, eqP_self, eqP_self]; rfl
end
end Go.Proofs.YtphhofgjnlfjmaaDoor
