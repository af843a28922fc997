/-
  Chapter 10 as plain functions: checkpoints that are right, their bodies, what is laid down of signed ones, what is read.
-/
import Derived.Test.YtillhpgdlmeajaaGreatDoorKSBackA
import Derived.Test.YtillhpgdlmeajaaGreatDoorKXSmalls
namespace Go.Proofs.YtillhpgdlmeajaaGreatDoor
open Go.RowKit
open Go.Proofs

/-- a signed checkpoint: its size, its root, its signature's number, parts and path. -/
structure Sg where
  n : Int
  r : List Int
  i : Int
  ps : List (List Int)
  qs : List (List Int)
def sg0 : Sg := ⟨0, [], 0, [], []⟩
def Sg.rgt (s : Sg) : Bool := rgtC s.n s.r && rgtP s.i s.ps s.qs
def Sg.lay (s : Sg) : List Int := be4 s.n ++ (s.r ++ encP s.i s.ps s.qs)
def Sg.ver (s : Sg) (pub : List Int) : Bool := rgtC s.n s.r && verP pub (bodC s.n s.r) s.i s.ps s.qs
/-- what is signed with a seed's key. -/
def sgnC (seed : List Int) (i : Nat) (n : Int) (r : List Int) : Sg := ⟨n, r, i, sgnP seed i (digP (bodC n r)), pthP seed i 4⟩

theorem letC_len : letC.length = 16 := rfl
theorem letC_bs : Bs letC := by
  intro b hb
  simp only [letC, List.mem_cons, List.not_mem_nil, or_false] at hb
  omega
theorem bodC_yes {n : Int} {r : List Int} (h : rgtC n r = true) : bodC n r = letC ++ (be4 n ++ r) := by unfold bodC; rw [if_pos h]
theorem bodC_no {n : Int} {r : List Int} (h : rgtC n r = false) : bodC n r = [] := by unfold bodC; rw [h]; rfl
theorem bodC_len {n : Int} {r : List Int} (h : rgtC n r = true) : (bodC n r).length = 52 := by
  rw [bodC_yes h]
  have := ((rgtC_iff n r).1 h).2
  simp only [List.length_append, letC_len, be4_len, this]
theorem bodC_le (n : Int) (r : List Int) : (bodC n r).length ≤ 52 := by
  cases h : rgtC n r with
  | true => rw [bodC_len h]; omega
  | false => rw [bodC_no h]; simp
theorem bodC_bs (n : Int) (r : List Int) (h : Bs r) : Bs (bodC n r) := by
  cases h' : rgtC n r with
  | true => rw [bodC_yes h']; exact letC_bs.append ((be4_bs n).append h)
  | false => rw [bodC_no h']; intro b hb; cases hb
theorem be4_valC (n : Int) (h0 : 0 ≤ n) (h1 : n ≤ 4294967295) : val (be4 n) = n := by rw [← be_4]; exact val_be4 n h0 h1
theorem be4_inj {n m : Int} (hn : 0 ≤ n ∧ n ≤ 256) (hm : 0 ≤ m ∧ m ≤ 256) (h : be4 n = be4 m) : n = m := by
  rw [← be4_valC n hn.1 (by omega), ← be4_valC m hm.1 (by omega), h]
theorem bodC_inj {n m : Int} {r t : List Int} (hn : rgtC n r = true) (hm : rgtC m t = true) : decide (bodC n r = bodC m t) = decide (n = m ∧ r = t) := by
  rw [bodC_yes hn, bodC_yes hm]
  refine decide_eq_decide.2 ⟨fun h => ?_, fun h => by rw [h.1, h.2]⟩
  have h1 := List.append_cancel_left h
  have h2 := List.append_inj h1 rfl
  exact ⟨be4_inj ((rgtC_iff n r).1 hn).1 ((rgtC_iff m t).1 hm).1 h2.1, h2.2⟩
theorem Sg.lay_len {s : Sg} (h : s.rgt = true) : s.lay.length = 2216 := by
  simp only [Sg.rgt, Bool.and_eq_true] at h
  have := ((rgtC_iff _ _).1 h.1).2
  simp only [Sg.lay, List.length_append, be4_len, encP_len _ _ _ h.2, this]
theorem Sg.lay_bs {s : Sg} (h : s.rgt = true) (hr : Bs s.r) (hp : ∀ x ∈ s.ps, Bs x) (hq : ∀ x ∈ s.qs, Bs x) : Bs s.lay := by
  simp only [Sg.rgt, Bool.and_eq_true] at h
  exact (be4_bs _).append (hr.append (encP_bs _ _ _ h.2 hp hq))

/-- the number, the root and the signature's bytes, as a reader gives them. -/
def g1 (s : Bool × List Int) : List Int × Bool × List Int := tk s.1 s.2 4
def g2 (s : Bool × List Int) : List Int × Bool × List Int := tk (g1 s).2.1 (g1 s).2.2 32
def g3 (s : Bool × List Int) : List Int × Bool × List Int := tk (g2 s).2.1 (g2 s).2.2 2180
theorem g1_eq (s : Bool × List Int) : g1 s = tk s.1 s.2 4 := rfl
theorem g2_eq (s : Bool × List Int) : g2 s = tk (g1 s).2.1 (g1 s).2.2 32 := rfl
theorem g3_eq (s : Bool × List Int) : g3 s = tk (g2 s).2.1 (g2 s).2.2 2180 := rfl
def okG (s : Bool × List Int) : Bool := rgtC (val (g1 s).1) (g2 s).1 && decOk (g3 s).1
def sgG (s : Bool × List Int) : Sg := ⟨val (g1 s).1, (g2 s).1, val ((g3 s).1.take 4), chP 64 ((g3 s).1.drop 4), chP 4 ((g3 s).1.drop 2052)⟩
def ansG (s : Bool × List Int) : Sg := if okG s then sgG s else sg0
def okD (B : List Int) : Bool := okG (false, B) && (g3 (false, B)).2.2.isEmpty
def ansD (B : List Int) : Sg := if okD B then sgG (false, B) else sg0
theorem ansG_yes {s : Bool × List Int} (h : okG s = true) : ansG s = sgG s := by unfold ansG; rw [if_pos h]
theorem ansG_no {s : Bool × List Int} (h : okG s = false) : ansG s = sg0 := by unfold ansG; rw [h]; rfl
theorem ansD_yes {B : List Int} (h : okD B = true) : ansD B = sgG (false, B) := by unfold ansD; rw [if_pos h]
theorem ansD_no {B : List Int} (h : okD B = false) : ansD B = sg0 := by unfold ansD; rw [h]; rfl
theorem gs_bs {s : Bool × List Int} (h : Bs s.2) : Bs (g1 s).1 ∧ Bs (g1 s).2.2 ∧ Bs (g2 s).1 ∧ Bs (g2 s).2.2 ∧ Bs (g3 s).1 ∧ Bs (g3 s).2.2 := by
  have h1 : Bs (g1 s).2.2 := tk_bs2 h
  have h2 : Bs (g2 s).2.2 := tk_bs2 h1
  exact ⟨tk_bs1 h, h1, tk_bs1 h1, h2, tk_bs1 h2, tk_bs2 h2⟩
theorem gs_len (s : Bool × List Int) : (g1 s).2.2.length ≤ s.2.length ∧ (g2 s).2.2.length ≤ s.2.length ∧ (g3 s).2.2.length ≤ s.2.length := by
  have h1 := @tk_len s.1 s.2 4
  have h2 := @tk_len (g1 s).2.1 (g1 s).2.2 32
  have h3 := @tk_len (g2 s).2.1 (g2 s).2.2 2180
  rw [← g1_eq] at h1
  rw [← g2_eq] at h2
  rw [← g3_eq] at h3
  omega
theorem g1_val {s : Bool × List Int} (h : Bs s.2) : 0 ≤ val (g1 s).1 ∧ val (g1 s).1 ≤ 4294967295 := by
  have h1 := val_bd _ (gs_bs h).1
  have h2 : (g1 s).1.length ≤ 4 := @tk_len1 s.1 s.2 4
  have : (g1 s).1.length = 0 ∨ (g1 s).1.length = 1 ∨ (g1 s).1.length = 2 ∨ (g1 s).1.length = 3 ∨ (g1 s).1.length = 4 := by omega
  rcases this with e | e | e | e | e <;> rw [e] at h1 <;> omega
theorem tk_full {bad : Bool} {bs : List Int} {n : Nat} (hn : 0 < n) (h : (tk bad bs n).1.length = n) : n ≤ bs.length ∧ tk bad bs n = (bs.take n, bad, bs.drop n) := by
  by_cases hle : n ≤ bs.length
  · exact ⟨hle, tk_ok bad bs n hle⟩
  · rw [tk_no bad bs n (.inr (by omega))] at h
    simp at h
    omega
theorem tk_rest {bad : Bool} {bs : List Int} {n : Nat} (h : 0 < (tk bad bs n).2.2.length) : n ≤ bs.length ∧ tk bad bs n = (bs.take n, bad, bs.drop n) := by
  by_cases hle : n ≤ bs.length
  · exact ⟨hle, tk_ok bad bs n hle⟩
  · rw [tk_no bad bs n (.inr (by omega))] at h
    simp at h
/-- where the signature's bytes are whole, all was there. -/
theorem g3_whole {s : Bool × List Int} (h : (g3 s).1.length = 2180) : g1 s = (s.2.take 4, s.1, s.2.drop 4) ∧ g2 s = ((s.2.drop 4).take 32, s.1, s.2.drop 36) ∧ g3 s = ((s.2.drop 36).take 2180, s.1, s.2.drop 2216) ∧ 2216 ≤ s.2.length := by
  have h3 := tk_full (bad := (g2 s).2.1) (bs := (g2 s).2.2) (n := 2180) (by omega) h
  have h2 := tk_rest (bad := (g1 s).2.1) (bs := (g1 s).2.2) (n := 32) (by show 0 < (g2 s).2.2.length; omega)
  have h1 := tk_rest (bad := s.1) (bs := s.2) (n := 4) (by show 0 < (g1 s).2.2.length; omega)
  have e1 : g1 s = (s.2.take 4, s.1, s.2.drop 4) := h1.2
  have e2 : g2 s = ((s.2.drop 4).take 32, s.1, s.2.drop 36) := by
    have : g2 s = _ := h2.2
    rw [this, e1]
    simp
  have e3 : g3 s = ((s.2.drop 36).take 2180, s.1, s.2.drop 2216) := by
    have : g3 s = _ := h3.2
    rw [this, e2]
    simp
  refine ⟨e1, e2, e3, ?_⟩
  have := h3.1
  rw [e2] at this
  simp at this
  omega
theorem decOk_len {b : List Int} (h : decOk b = true) : b.length = 2180 := by
  simp only [decOk, Bool.and_eq_true, beq_iff_eq] at h
  exact h.1
/-- the reference's way of asking. -/
theorem okG_ref {s : Bool × List Int} (h : s.1 = true → s.2 = []) (hB : Bs s.2) : okG s = (!(g3 s).2.1 && (decOk (g3 s).1 && decide (val (g1 s).1 ≤ 256))) := by
  unfold okG
  cases hd : decOk (g3 s).1 with
  | false => simp
  | true =>
    obtain ⟨e1, e2, e3, hl⟩ := g3_whole (decOk_len hd)
    have hb : s.1 = false := by
      cases hs : s.1 with
      | false => rfl
      | true => rw [h hs] at hl; simp at hl
    have h0 := (g1_val hB).1
    have h2 : (g2 s).1.length = 32 := by rw [e2]; simp; omega
    rw [Bool.and_true, e3]
    simp only [hb, rgtC, h2, h0]
    simp
theorem okD_end {B : List Int} (h : okG (false, B) = true) : (g3 (false, B)).2.1 = false := by
  simp only [okG, Bool.and_eq_true] at h
  rw [(g3_whole (decOk_len h.2)).2.2.1]
/-- what was laid down is read. -/
theorem lay_back {s : Sg} (h : s.rgt = true) (R : List Int) : okG (false, s.lay ++ R) = true ∧ sgG (false, s.lay ++ R) = s ∧ (g3 (false, s.lay ++ R)).2 = (false, R) := by
  have hl := s.lay_len h
  have h' := h
  simp only [Sg.rgt, Bool.and_eq_true] at h'
  have hr := (rgtC_iff _ _).1 h'.1
  have he := encP_len _ _ _ h'.2
  have e1 : g1 (false, s.lay ++ R) = (be4 s.n, false, s.r ++ (encP s.i s.ps s.qs ++ R)) := by
    have : g1 (false, s.lay ++ R) = _ := tk_ok false (s.lay ++ R) 4 (by simp; omega)
    rw [this]
    simp only [Sg.lay, List.append_assoc]
    rw [List.take_left' (be4_len _), List.drop_left' (be4_len _)]
  have e2 : g2 (false, s.lay ++ R) = (s.r, false, encP s.i s.ps s.qs ++ R) := by
    rw [g2_eq, e1]
    have := tk_ok false (s.r ++ (encP s.i s.ps s.qs ++ R)) 32 (by simp; omega)
    rw [List.take_left' hr.2, List.drop_left' hr.2] at this
    exact this
  have e3 : g3 (false, s.lay ++ R) = (encP s.i s.ps s.qs, false, R) := by
    rw [g3_eq, e2]
    have := tk_ok false (encP s.i s.ps s.qs ++ R) 2180 (by simp; omega)
    rw [List.take_left' he, List.drop_left' he] at this
    exact this
  obtain ⟨b1, b2, b3, b4⟩ := encP_back s.i s.ps s.qs h'.2
  have hv := be4_valC s.n hr.1.1 (by omega)
  refine ⟨?_, ?_, by rw [e3]⟩
  · unfold okG; rw [e1, e2, e3]; simp only [hv, h'.1, b1]; rfl
  · unfold sgG; rw [e1, e2, e3]; simp only [hv, b2, b3, b4]
theorem okD_lay {s : Sg} (h : s.rgt = true) : okD s.lay = true ∧ ansD s.lay = s := by
  have := lay_back h []
  rw [List.append_nil] at this
  have hk : okD s.lay = true := by unfold okD; rw [this.1, this.2.2]; rfl
  exact ⟨hk, by rw [ansD_yes hk, this.2.1]⟩
theorem sgnC_rgt (seed : List Int) (i : Nat) (hi : i < 16) (n : Int) (r : List Int) (h : rgtC n r = true) : (sgnC seed i n r).rgt = true := by
  simp only [Sg.rgt, sgnC, h, rgtP_sgn seed i hi, Bool.and_self]
theorem sgnC_ver (seed : List Int) (i : Nat) (hi : i < 16) (n : Int) (r : List Int) (h : rgtC n r = true) : (sgnC seed i n r).ver (topP seed) = true := by
  simp only [Sg.ver, sgnC, h, verP_sgn seed (bodC n r) i hi, Bool.and_self]
end Go.Proofs.YtillhpgdlmeajaaGreatDoor
