/-
  Chapter 9 as plain functions: which names and manifests may be, a manifest as bytes, bytes as a manifest; that what is written is read, that what is read is written so, that what is cut off or has more behind it is none.
-/
import Derived.Test.YtillhpgdlmeajaaGreatDoorKSWire
import Derived.Test.YtillhpgdlmeajaaGreatDoorKLMarks
namespace Go.Proofs.YtillhpgdlmeajaaGreatDoor
open Go.RowKit

/-- A manifest: its name, version, firmware and notes. -/
structure Mf where
  s : ByteArray
  v : Int
  f : List Int
  n : List Int
def mf0 : Mf := ⟨⟨#[]⟩, 0, [], []⟩
/-- A manifest of plain data. -/
structure Mf.ok (m : Mf) : Prop where
  v0 : 0 ≤ m.v
  v1 : m.v ≤ 4294967295
  f : Bs m.f
  n : Bs m.n
theorem mf0_ok : mf0.ok := ⟨by decide, by decide, (fun _ hb => nomatch hb), (fun _ hb => nomatch hb)⟩
def lowP (ns : List Int) : Bool := ns.all fun b => decide (97 ≤ b) && decide (b ≤ 122)
def nameP (ns : List Int) : Bool := decide (1 ≤ ns.length) && decide (ns.length ≤ 20) && lowP ns
def rgtM (m : Mf) : Bool := nameP (nums m.s) && decide (0 < m.v) && decide (m.f.length = 32) && decide (m.n.length ≤ 64)
def be2 (n : Int) : List Int := [n / 256 % 256, n % 256]
def encM (m : Mf) : List Int := [77] ++ (be2 (nums m.s).length ++ nums m.s) ++ be4 m.v ++ m.f ++ (be2 m.n.length ++ m.n)
def d1 (B : List Int) := tk false B 1
def d2 (B : List Int) := tkb (d1 B).2.1 (d1 B).2.2 20
def d3 (B : List Int) := tk (d2 B).2.1 (d2 B).2.2 4
def d4 (B : List Int) := tk (d3 B).2.1 (d3 B).2.2 32
def d5 (B : List Int) := tkb (d4 B).2.1 (d4 B).2.2 64
theorem d1_eq (B : List Int) : d1 B = tk false B 1 := by unfold d1; rfl
theorem d2_eq (B : List Int) : d2 B = tkb (d1 B).2.1 (d1 B).2.2 20 := by unfold d2; rfl
theorem d3_eq (B : List Int) : d3 B = tk (d2 B).2.1 (d2 B).2.2 4 := by unfold d3; rfl
theorem d4_eq (B : List Int) : d4 B = tk (d3 B).2.1 (d3 B).2.2 32 := by unfold d4; rfl
theorem d5_eq (B : List Int) : d5 B = tkb (d4 B).2.1 (d4 B).2.2 64 := by unfold d5; rfl
def decM (B : List Int) : Mf := ⟨strOfNums (d2 B).1, val (d3 B).1, (d4 B).1, (d5 B).1⟩
def endM (B : List Int) : Bool := !(d5 B).2.1 && (d5 B).2.2.isEmpty
def okM (B : List Int) : Bool := decide (val (d1 B).1 = 77) && endM B && rgtM (decM B)
/-- the error beside an answer. -/
def errOf (b : Bool) : Int := if b then 0 else 12
theorem errOf_t : errOf true = 0 := rfl
theorem errOf_f : errOf false = 12 := rfl
/-- what Decode tells. -/
def ansM (B : List Int) : Mf := if okM B then decM B else mf0

theorem rgtM_iff (m : Mf) : rgtM m = true ↔ (nameP (nums m.s) = true ∧ 0 < m.v ∧ m.f.length = 32 ∧ m.n.length ≤ 64) := by
  unfold rgtM
  simp only [Bool.and_eq_true, decide_eq_true_eq]
  constructor
  · rintro ⟨⟨⟨a, b⟩, c⟩, d⟩; exact ⟨a, b, c, d⟩
  · rintro ⟨a, b, c, d⟩; exact ⟨⟨⟨a, b⟩, c⟩, d⟩
theorem nameP_len {ns : List Int} (h : nameP ns = true) : 1 ≤ ns.length ∧ ns.length ≤ 20 := by
  unfold nameP at h
  simp only [Bool.and_eq_true, decide_eq_true_eq] at h
  exact h.1
theorem okM_iff (B : List Int) : okM B = true ↔ (val (d1 B).1 = 77 ∧ ((d5 B).2.1 = false ∧ (d5 B).2.2 = []) ∧ rgtM (decM B) = true) := by
  unfold okM endM
  simp only [Bool.and_eq_true, decide_eq_true_eq, Bool.not_eq_true', List.isEmpty_iff]
  constructor
  · rintro ⟨⟨a, b⟩, c⟩; exact ⟨a, b, c⟩
  · rintro ⟨a, b, c⟩; exact ⟨⟨a, b⟩, c⟩

/-- a bad reader stays bad. -/
theorem tk_bad {bad : Bool} {bs : List Int} {n : Int} (h : (tk bad bs n).2.1 = false) : bad = false ∧ 0 ≤ n ∧ n ≤ (bs.length : Int) := by
  unfold tk at h
  split at h
  · rename_i hc; exact ⟨h, hc⟩
  · cases h
theorem tkb_bad {bad : Bool} {bs : List Int} {n : Int} (h : (tkb bad bs n).2.1 = false) : bad = false ∧ 2 ≤ bs.length ∧ val (bs.take 2) ≤ max n 0 ∧ tkb bad bs n = tk false (bs.drop 2) (val (bs.take 2)) := by
  have hu : tkb bad bs n = if max n 0 < val (tk bad bs 2).1 then ([], true, []) else tk (tk bad bs 2).2.1 (tk bad bs 2).2.2 (val (tk bad bs 2).1) := rfl
  by_cases hc : max n 0 < val (tk bad bs 2).1
  · rw [hu, if_pos hc] at h; cases h
  · rw [if_neg hc] at hu
    have h1 := tk_bad (by rw [← hu]; exact h)
    have h2 := tk_bad h1.1
    have e := tk_ok bad bs 2 (by omega)
    rw [show ((2 : Nat) : Int) = 2 from rfl] at e
    rw [e] at hu hc
    refine ⟨h2.1, by omega, by simp only at hc; omega, ?_⟩
    rw [hu]
    simp only
    rw [h2.1]
/-- more behind what was read well is left. -/
theorem tk_more {bad : Bool} {bs : List Int} {n : Int} (Y : List Int) (h : (tk bad bs n).2.1 = false) : tk bad (bs ++ Y) n = ((tk bad bs n).1, false, (tk bad bs n).2.2 ++ Y) := by
  obtain ⟨rfl, h0, h1⟩ := tk_bad h
  obtain ⟨m, rfl⟩ := Int.eq_ofNat_of_zero_le h0
  rw [tk_ok false bs m (by omega), tk_ok false (bs ++ Y) m (by rw [List.length_append]; omega)]
  rw [List.take_append_of_le_length (by omega), List.drop_append_of_le_length (by omega)]
theorem tkb_more {bad : Bool} {bs : List Int} {n : Int} (Y : List Int) (h : (tkb bad bs n).2.1 = false) : tkb bad (bs ++ Y) n = ((tkb bad bs n).1, false, (tkb bad bs n).2.2 ++ Y) := by
  obtain ⟨rfl, h2, h3, e⟩ := tkb_bad h
  rw [e] at h ⊢
  rw [← tk_more Y h]
  unfold tkb
  have e2 := tk_ok false (bs ++ Y) 2 (by rw [List.length_append]; omega)
  rw [show ((2 : Nat) : Int) = 2 from rfl, List.take_append_of_le_length (by omega), List.drop_append_of_le_length (by omega)] at e2
  rw [e2]
  simp only
  rw [if_neg (by omega)]
theorem okM_more {B Y : List Int} (h : okM B = true) (hY : Y ≠ []) : okM (B ++ Y) = false := by
  obtain ⟨_, ⟨h5, r5⟩, _⟩ := (okM_iff B).1 h
  have h4 : (d4 B).2.1 = false := (tkb_bad (by rw [← d5_eq]; exact h5)).1
  have h3 : (d3 B).2.1 = false := (tk_bad (by rw [← d4_eq]; exact h4)).1
  have h2 : (d2 B).2.1 = false := (tk_bad (by rw [← d3_eq]; exact h3)).1
  have h1 : (d1 B).2.1 = false := (tkb_bad (by rw [← d2_eq]; exact h2)).1
  have e1 : d1 (B ++ Y) = ((d1 B).1, false, (d1 B).2.2 ++ Y) := by
    have := tk_more (bad := false) (bs := B) (n := 1) Y (by rw [← d1_eq]; exact h1)
    rw [← d1_eq, ← d1_eq] at this
    exact this
  have e2 : d2 (B ++ Y) = ((d2 B).1, false, (d2 B).2.2 ++ Y) := by
    have := tkb_more (bad := (d1 B).2.1) (bs := (d1 B).2.2) (n := 20) Y (by rw [← d2_eq]; exact h2)
    rw [← d2_eq] at this
    rw [d2_eq (B ++ Y), e1]
    rw [h1] at this
    exact this
  have e3 : d3 (B ++ Y) = ((d3 B).1, false, (d3 B).2.2 ++ Y) := by
    have := tk_more (bad := (d2 B).2.1) (bs := (d2 B).2.2) (n := 4) Y (by rw [← d3_eq]; exact h3)
    rw [← d3_eq] at this
    rw [d3_eq (B ++ Y), e2]
    rw [h2] at this
    exact this
  have e4 : d4 (B ++ Y) = ((d4 B).1, false, (d4 B).2.2 ++ Y) := by
    have := tk_more (bad := (d3 B).2.1) (bs := (d3 B).2.2) (n := 32) Y (by rw [← d4_eq]; exact h4)
    rw [← d4_eq] at this
    rw [d4_eq (B ++ Y), e3]
    rw [h3] at this
    exact this
  have e5 : d5 (B ++ Y) = ((d5 B).1, false, (d5 B).2.2 ++ Y) := by
    have := tkb_more (bad := (d4 B).2.1) (bs := (d4 B).2.2) (n := 64) Y (by rw [← d5_eq]; exact h5)
    rw [← d5_eq] at this
    rw [d5_eq (B ++ Y), e4]
    rw [h4] at this
    exact this
  cases hc : okM (B ++ Y) with
  | false => rfl
  | true =>
    obtain ⟨_, ⟨_, r⟩, _⟩ := (okM_iff _).1 hc
    rw [e5, r5] at r
    exact absurd r (by simpa using hY)
theorem be2_val (n : Nat) (h : n ≤ 65535) : val (be2 n) = n := by
  simp only [val, be2, List.foldl_cons, List.foldl_nil]
  omega
theorem be4_val (n : Int) (h0 : 0 ≤ n) (h1 : n ≤ 4294967295) : val (be4 n) = n := by
  simp only [val, be4, List.foldl_cons, List.foldl_nil]
  omega
theorem val_be2 (cs : List Int) (h : Bs cs) (hl : cs.length = 2) : be2 (val cs) = cs := by
  match cs, hl with
  | [a, b], _ =>
    have ha := h a (by simp)
    have hb := h b (by simp)
    simp only [val, be2, List.foldl_cons, List.foldl_nil, List.cons.injEq, and_true]
    omega
theorem be4_of_val (cs : List Int) (h : Bs cs) (hl : cs.length = 4) : be4 (val cs) = cs := by
  match cs, hl with
  | [a, b, c, d], _ =>
    have ha := h a (by simp)
    have hb := h b (by simp)
    have hc := h c (by simp)
    have hd := h d (by simp)
    simp only [val, be4, List.foldl_cons, List.foldl_nil, List.cons.injEq, and_true]
    omega
/-- what stands ahead is read. -/
theorem tk_front (X Y : List Int) (n : Nat) (h : X.length = n) : tk false (X ++ Y) n = (X, false, Y) := by
  rw [tk_ok false _ n (by rw [List.length_append]; omega)]
  subst h
  simp
theorem tkb_front (X Y : List Int) (most : Nat) (h : X.length ≤ most) (hm : most ≤ 65535) : tkb false ((be2 X.length ++ X) ++ Y) most = (X, false, Y) := by
  unfold tkb
  have e := tk_front (be2 X.length) (X ++ Y) 2 rfl
  rw [show ((2 : Nat) : Int) = 2 from rfl] at e
  rw [List.append_assoc, e]
  simp only
  rw [be2_val _ (by omega), if_neg (by omega)]
  exact tk_front X Y _ rfl
theorem dec_enc_steps (m : Mf) (hr : rgtM m = true) : d1 (encM m) = ([77], false, (be2 (nums m.s).length ++ nums m.s) ++ (be4 m.v ++ (m.f ++ (be2 m.n.length ++ m.n)))) ∧ d2 (encM m) = (nums m.s, false, be4 m.v ++ (m.f ++ (be2 m.n.length ++ m.n))) ∧ d3 (encM m) = (be4 m.v, false, m.f ++ (be2 m.n.length ++ m.n)) ∧ d4 (encM m) = (m.f, false, be2 m.n.length ++ m.n) ∧ d5 (encM m) = (m.n, false, []) := by
  obtain ⟨h1, h2, h3, h4⟩ := (rgtM_iff m).1 hr
  have hn := nameP_len h1
  have e1 : d1 (encM m) = ([77], false, (be2 (nums m.s).length ++ nums m.s) ++ (be4 m.v ++ (m.f ++ (be2 m.n.length ++ m.n)))) := by
    unfold d1 encM
    have := tk_front [77] ((be2 (nums m.s).length ++ nums m.s) ++ (be4 m.v ++ (m.f ++ (be2 m.n.length ++ m.n)))) 1 rfl
    simpa [List.append_assoc] using this
  have e2 : d2 (encM m) = (nums m.s, false, be4 m.v ++ (m.f ++ (be2 m.n.length ++ m.n))) := by
    unfold d2
    rw [e1]
    exact tkb_front _ _ 20 (by omega) (by omega)
  have e3 : d3 (encM m) = (be4 m.v, false, m.f ++ (be2 m.n.length ++ m.n)) := by
    unfold d3
    rw [e2]
    exact tk_front _ _ 4 rfl
  have e4 : d4 (encM m) = (m.f, false, be2 m.n.length ++ m.n) := by
    unfold d4
    rw [e3]
    exact tk_front _ _ 32 h3
  have e5 : d5 (encM m) = (m.n, false, []) := by
    unfold d5
    rw [e4]
    have := tkb_front m.n [] 64 (by omega) (by omega)
    rw [List.append_nil] at this
    exact this
  exact ⟨e1, e2, e3, e4, e5⟩
theorem dec_enc (m : Mf) (hm : m.ok) (hr : rgtM m = true) : decM (encM m) = m ∧ okM (encM m) = true := by
  obtain ⟨e1, e2, e3, e4, e5⟩ := dec_enc_steps m hr
  have e : decM (encM m) = m := by
    unfold decM
    rw [e2, e3, e4, e5]
    simp only
    rw [str_nums, be4_val _ hm.v0 hm.v1]
  refine ⟨e, (okM_iff _).2 ⟨?_, ?_, ?_⟩⟩
  · rw [e1]; rfl
  · rw [e5]; exact ⟨rfl, rfl⟩
  · rw [e]; exact hr
theorem okM_cut (m : Mf) (hm : m.ok) (hr : rgtM m = true) (k : Nat) (hk : k < (encM m).length) : okM ((encM m).take k) = false := by
  cases hc : okM ((encM m).take k) with
  | false => rfl
  | true =>
    have := okM_more (Y := (encM m).drop k) hc (by simp; omega)
    rw [List.take_append_drop, (dec_enc m hm hr).2] at this
    cases this
theorem tk_parts {bs : List Int} {n : Int} (h : (tk false bs n).2.1 = false) : bs = (tk false bs n).1 ++ (tk false bs n).2.2 ∧ ((tk false bs n).1.length : Int) = n := by
  obtain ⟨_, h0, h1⟩ := tk_bad h
  obtain ⟨m, rfl⟩ := Int.eq_ofNat_of_zero_le h0
  rw [tk_ok false bs m (by omega)]
  refine ⟨(List.take_append_drop m bs).symm, ?_⟩
  simp only [List.length_take]
  omega
theorem tkb_parts {bs : List Int} {n : Int} (hB : Bs bs) (h : (tkb false bs n).2.1 = false) : bs = (be2 (tkb false bs n).1.length ++ (tkb false bs n).1) ++ (tkb false bs n).2.2 ∧ ((tkb false bs n).1.length : Int) ≤ max n 0 := by
  obtain ⟨_, h2, h3, e⟩ := tkb_bad h
  rw [e] at h ⊢
  have p := tk_parts h
  have hl : (bs.take 2).length = 2 := by rw [List.length_take]; omega
  refine ⟨?_, by rw [p.2]; exact h3⟩
  rw [p.2, val_be2 _ (hB.take 2) hl, List.append_assoc, ← p.1, List.take_append_drop]
theorem ds_bs {B : List Int} (hB : Bs B) : Bs (d1 B).2.2 ∧ Bs (d2 B).2.2 ∧ Bs (d3 B).2.2 ∧ Bs (d4 B).2.2 ∧ Bs (d2 B).1 ∧ Bs (d3 B).1 ∧ Bs (d4 B).1 ∧ Bs (d5 B).1 := by
  have b1 : Bs (d1 B).2.2 := by rw [d1_eq]; exact tk_bs2 hB
  have b2 : Bs (d2 B).2.2 := by rw [d2_eq]; exact tkb_bs2 b1
  have b3 : Bs (d3 B).2.2 := by rw [d3_eq]; exact tk_bs2 b2
  have b4 : Bs (d4 B).2.2 := by rw [d4_eq]; exact tk_bs2 b3
  exact ⟨b1, b2, b3, b4, by rw [d2_eq]; exact tkb_bs1 b1, by rw [d3_eq]; exact tk_bs1 b2, by rw [d4_eq]; exact tk_bs1 b3, by rw [d5_eq]; exact tkb_bs1 b4⟩
theorem val_four (cs : List Int) (h : Bs cs) (hl : cs.length ≤ 4) : 0 ≤ val cs ∧ val cs ≤ 4294967295 := by
  have hv := val_bd cs h
  rcases (by omega : cs.length = 0 ∨ cs.length = 1 ∨ cs.length = 2 ∨ cs.length = 3 ∨ cs.length = 4) with e | e | e | e | e <;> rw [e] at hv <;> omega
theorem mk_ok {s : ByteArray} {x : Int} {f n : List Int} (h : 0 ≤ x ∧ x ≤ 4294967295) (hf : Bs f) (hn : Bs n) : (Mf.mk s x f n).ok := ⟨h.1, h.2, hf, hn⟩
theorem d3_len (B : List Int) : (d3 B).1.length ≤ 4 := by rw [d3_eq]; exact @tk_len1 (d2 B).2.1 (d2 B).2.2 4
theorem decM_ok {B : List Int} (hB : Bs B) : (decM B).ok := by
  obtain ⟨b1, b2, b3, b4, c2, c3, c4, c5⟩ := ds_bs hB
  unfold decM
  exact mk_ok (val_four _ c3 (d3_len B)) c4 c5
theorem enc_dec {B : List Int} (hB : Bs B) (h : okM B = true) : encM (decM B) = B := by
  obtain ⟨h77, ⟨h5, r5⟩, hr⟩ := (okM_iff B).1 h
  have h4 : (d4 B).2.1 = false := (tkb_bad (by rw [← d5_eq]; exact h5)).1
  have h3 : (d3 B).2.1 = false := (tk_bad (by rw [← d4_eq]; exact h4)).1
  have h2 : (d2 B).2.1 = false := (tk_bad (by rw [← d3_eq]; exact h3)).1
  have h1 : (d1 B).2.1 = false := (tkb_bad (by rw [← d2_eq]; exact h2)).1
  obtain ⟨b1, b2, b3, b4, c2, c3, c4, c5⟩ := ds_bs hB
  have p1 := tk_parts (bs := B) (n := 1) (by rw [← d1_eq]; exact h1)
  rw [← d1_eq] at p1
  have e2 : d2 B = tkb false (d1 B).2.2 20 := by rw [d2_eq, h1]
  have e3 : d3 B = tk false (d2 B).2.2 4 := by rw [d3_eq, h2]
  have e4 : d4 B = tk false (d3 B).2.2 32 := by rw [d4_eq, h3]
  have e5 : d5 B = tkb false (d4 B).2.2 64 := by rw [d5_eq, h4]
  have p2 := tkb_parts (n := 20) b1 (by rw [← e2]; exact h2)
  have p3 := tk_parts (n := 4) (by rw [← e3]; exact h3)
  have p4 := tk_parts (n := 32) (by rw [← e4]; exact h4)
  have p5 := tkb_parts (n := 64) b4 (by rw [← e5]; exact h5)
  rw [← e2] at p2
  rw [← e3] at p3
  rw [← e4] at p4
  rw [← e5] at p5
  have n2 : nums (strOfNums (d2 B).1) = (d2 B).1 := nums_str _ c2
  have q1 : (d1 B).1 = [77] := by
    have hl : (d1 B).1.length = 1 := by have := p1.2; omega
    match hd : (d1 B).1, hl with
    | [a], _ => rw [hd] at h77; simp [val] at h77; rw [h77]
  have q3 : be4 (val (d3 B).1) = (d3 B).1 := be4_of_val _ c3 (by omega)
  have s1 : B = [77] ++ (d1 B).2.2 := by have := p1.1; rw [← q1]; exact this
  unfold encM decM
  simp only
  rw [n2, q3]
  conv => rhs; rw [s1, p2.1, p3.1, p4.1, p5.1, r5]
  simp only [List.append_assoc, List.append_nil]
theorem ansM_ok {B : List Int} (hB : Bs B) : (ansM B).ok := by
  unfold ansM
  split
  · exact decM_ok hB
  · exact mf0_ok
theorem encM_len (m : Mf) : (encM m).length = 9 + (nums m.s).length + m.f.length + m.n.length := by
  unfold encM be2 be4
  simp only [List.length_append, List.length_cons, List.length_nil]
  omega
theorem be2_bs (n : Int) : Bs (be2 n) := by
  intro b hb
  simp only [be2, List.mem_cons, List.not_mem_nil, or_false] at hb
  rcases hb with rfl | rfl <;> omega
theorem encM_bs (m : Mf) (h : m.ok) : Bs (encM m) := by
  unfold encM
  exact ((((Bs.append (fun b hb => by simp at hb; omega) ((be2_bs _).append (nums_bs _))).append (be4_bs _)).append h.f).append ((be2_bs _).append h.n))
/-- the same in all. -/
def sameM (a b : Mf) : Bool := decide (a.s = b.s) && decide (a.v = b.v) && decide (a.f = b.f) && decide (a.n = b.n)
theorem sameM_refl (a : Mf) : sameM a a = true := by simp [sameM]
def newerM (a b : Mf) : Bool := decide (a.s = b.s) && decide (b.v < a.v)
end Go.Proofs.YtillhpgdlmeajaaGreatDoor
