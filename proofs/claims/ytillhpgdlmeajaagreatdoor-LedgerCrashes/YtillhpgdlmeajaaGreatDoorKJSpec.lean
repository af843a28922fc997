/-
  Chapter 13 as plain functions: how records lie, and what is read of any bytes.
-/
import Derived.Test.YtillhpgdlmeajaaGreatDoorKHBases
namespace Go.Proofs.YtillhpgdlmeajaaGreatDoor
/-- four bytes of a number, the highest first. -/
def bq (n : Int) : List Int := [n / 16777216 % 256, n / 65536 % 256, n / 256 % 256, n % 256]
theorem bq_len (n : Int) : (bq n).length = 4 := rfl
theorem bq_bs (n : Int) : Bs (bq n) := fun b hb => by
  rcases (by simpa [bq] using hb : b = n / 16777216 % 256 ∨ b = n / 65536 % 256 ∨ b = n / 256 % 256 ∨ b = n % 256) with rfl | rfl | rfl | rfl <;> omega
theorem val_bq {n : Int} (h0 : 0 ≤ n) (h1 : n ≤ 4294967295) : val (bq n) = n := by
  unfold val bq
  simp only [List.foldl_cons, List.foldl_nil]
  omega
/-- A record as it lies. -/
def recP (r : List Int) : List Int := bq r.length ++ bq (4294967295 - r.length) ++ r
def layP (l : List (List Int)) : List Int := (l.map recP).flatten
theorem recP_len (r : List Int) : (recP r).length = 8 + r.length := by simp [recP, bq_len]; omega
theorem layP_nil : layP [] = [] := rfl
theorem layP_cons (r : List Int) (l : List (List Int)) : layP (r :: l) = recP r ++ layP l := rfl
theorem layP_append (a b : List (List Int)) : layP (a ++ b) = layP a ++ layP b := by simp [layP]
theorem layP_snoc (a : List (List Int)) (r : List Int) : layP (a ++ [r]) = layP a ++ recP r := by simp [layP]
theorem recP_bs {r : List Int} (h : Bs r) : Bs (recP r) := fun b hb => by
  rcases List.mem_append.1 hb with hb | hb
  · rcases List.mem_append.1 hb with hb | hb
    · exact bq_bs _ b hb
    · exact bq_bs _ b hb
  · exact h b hb
theorem layP_bs {l : List (List Int)} (h : ∀ r ∈ l, Bs r) : Bs (layP l) := fun b hb => by
  simp only [layP, List.mem_flatten, List.mem_map] at hb
  obtain ⟨y, ⟨r, hr, rfl⟩, hb⟩ := hb
  exact recP_bs (h r hr) b hb
theorem layP_len (l : List (List Int)) (m : Nat) (h : ∀ r ∈ l, r.length ≤ m) : (layP l).length ≤ l.length * (8 + m) := by
  induction l with
  | nil => simp [layP]
  | cons r l ih =>
    have h1 := ih (fun x hx => h x (by simp [hx]))
    have h2 := h r (by simp)
    rw [layP_cons, List.length_append, recP_len, List.length_cons, Nat.add_mul]
    omega
/-- the two numbers at the beginning. -/
def num1 (b : List Int) : Int := val (b.take 4)
def num2 (b : List Int) : Int := val ((b.drop 4).take 4)
/-- What is read of any bytes, by a number of steps. -/
def opnF : Nat → List Int → List (List Int) × Nat × Bool
  | 0, _ => ([], 0, true)
  | f + 1, b =>
    if b.length < 8 then ([], 0, true)
    else if num2 b ≠ 4294967295 - num1 b ∨ 65535 < num1 b then ([], 0, false)
    else if ((b.length - 8 : Nat) : Int) < num1 b then ([], 0, true)
    else ((b.drop 8).take (num1 b).toNat :: (opnF f (b.drop (8 + (num1 b).toNat))).1, 8 + (num1 b).toNat + (opnF f (b.drop (8 + (num1 b).toNat))).2.1, (opnF f (b.drop (8 + (num1 b).toNat))).2.2)
/-- What is read of any bytes: the records, where they end, and whether what is left is nothing or torn. -/
def opnP (b : List Int) : List (List Int) × Nat × Bool := opnF (b.length + 1) b
theorem opnF_fuel : ∀ (f g : Nat) (b : List Int), b.length < f → b.length < g → opnF f b = opnF g b
  | 0, _, _, h, _ => by omega
  | _ + 1, 0, _, _, h => by omega
  | f + 1, g + 1, b, hf, hg => by
    unfold opnF
    by_cases h8 : b.length < 8
    · rw [if_pos h8, if_pos h8]
    · rw [if_neg h8, if_neg h8, opnF_fuel f g (b.drop (8 + (num1 b).toNat)) (by rw [List.length_drop]; omega) (by rw [List.length_drop]; omega)]
theorem opnP_eq (b : List Int) : opnP b =
    if b.length < 8 then ([], 0, true)
    else if num2 b ≠ 4294967295 - num1 b ∨ 65535 < num1 b then ([], 0, false)
    else if ((b.length - 8 : Nat) : Int) < num1 b then ([], 0, true)
    else ((b.drop 8).take (num1 b).toNat :: (opnP (b.drop (8 + (num1 b).toNat))).1, 8 + (num1 b).toNat + (opnP (b.drop (8 + (num1 b).toNat))).2.1, (opnP (b.drop (8 + (num1 b).toNat))).2.2) := by
  by_cases h8 : b.length < 8
  · show opnF (b.length + 1) b = _
    unfold opnF
    rw [if_pos h8, if_pos h8]
  · have e : opnP (b.drop (8 + (num1 b).toNat)) = opnF b.length (b.drop (8 + (num1 b).toNat)) := opnF_fuel _ _ _ (by omega) (by rw [List.length_drop]; omega)
    rw [e]
    rfl
theorem opnP_short {b : List Int} (h : b.length < 8) : opnP b = ([], 0, true) := by rw [opnP_eq, if_pos h]
theorem opnP_bad {b : List Int} (h : 8 ≤ b.length) (hb : num2 b ≠ 4294967295 - num1 b ∨ 65535 < num1 b) : opnP b = ([], 0, false) := by rw [opnP_eq, if_neg (by omega), if_pos hb]
theorem opnP_torn {b : List Int} (h : 8 ≤ b.length) (h1 : num2 b = 4294967295 - num1 b) (h2 : num1 b ≤ 65535) (h3 : ((b.length - 8 : Nat) : Int) < num1 b) : opnP b = ([], 0, true) := by rw [opnP_eq, if_neg (by omega), if_neg (by omega), if_pos h3]
theorem opnP_one {b : List Int} (h : 8 ≤ b.length) (h1 : num2 b = 4294967295 - num1 b) (h2 : num1 b ≤ 65535) (h3 : num1 b ≤ ((b.length - 8 : Nat) : Int)) :
    opnP b = ((b.drop 8).take (num1 b).toNat :: (opnP (b.drop (8 + (num1 b).toNat))).1, 8 + (num1 b).toNat + (opnP (b.drop (8 + (num1 b).toNat))).2.1, (opnP (b.drop (8 + (num1 b).toNat))).2.2) := by
  rw [opnP_eq, if_neg (by omega), if_neg (by omega), if_neg (by omega)]
theorem num1_rec (r t : List Int) (h : r.length ≤ 65535) : num1 (recP r ++ t) = r.length := by
  have e : (recP r ++ t).take 4 = bq r.length := by
    unfold recP
    rw [List.append_assoc, List.append_assoc, List.take_left' (bq_len _)]
  unfold num1
  rw [e, val_bq (by omega) (by omega)]
theorem num2_rec (r t : List Int) (h : r.length ≤ 65535) : num2 (recP r ++ t) = 4294967295 - r.length := by
  have e : ((recP r ++ t).drop 4).take 4 = bq (4294967295 - r.length) := by
    unfold recP
    rw [List.append_assoc, List.append_assoc, List.drop_left' (bq_len _), List.take_left' (bq_len _)]
  unfold num2
  rw [e, val_bq (by omega) (by omega)]
theorem rec_body (r t : List Int) : (recP r ++ t).drop 8 = r ++ t := by
  unfold recP
  rw [List.append_assoc, List.drop_left' (by simp [bq_len])]
theorem rec_rest (r t : List Int) : (recP r ++ t).drop (8 + r.length) = t := by
  rw [List.drop_left' (recP_len r)]
/-- a record ahead of whatever is read. -/
theorem opnP_rec (r t : List Int) (h : r.length ≤ 65535) : opnP (recP r ++ t) = (r :: (opnP t).1, 8 + r.length + (opnP t).2.1, (opnP t).2.2) := by
  have e1 := num1_rec r t h
  have e2 := num2_rec r t h
  have hl : (recP r ++ t).length = 8 + r.length + t.length := by rw [List.length_append, recP_len]
  rw [opnP_one (by omega) (by omega) (by omega) (by omega), e1, Int.toNat_natCast, rec_body, rec_rest, List.take_left' rfl]
theorem opnP_lay (l : List (List Int)) (t : List Int) (h : ∀ r ∈ l, r.length ≤ 65535) : opnP (layP l ++ t) = (l ++ (opnP t).1, (layP l).length + (opnP t).2.1, (opnP t).2.2) := by
  induction l with
  | nil => simp [layP]
  | cons r l ih =>
    rw [layP_cons, List.append_assoc, opnP_rec r _ (h r (by simp)), ih (fun x hx => h x (by simp [hx]))]
    simp only [List.cons_append, List.length_append, recP_len, Nat.add_assoc]
theorem opnP_nil : opnP [] = ([], 0, true) := opnP_short (by simp)
theorem opnP_all (l : List (List Int)) (h : ∀ r ∈ l, r.length ≤ 65535) : opnP (layP l) = (l, (layP l).length, true) := by
  have := opnP_lay l [] h
  rw [List.append_nil, opnP_nil] at this
  simpa using this
/-- a record that was cut off is torn. -/
theorem opnP_cut (r : List Int) (k : Nat) (h : r.length ≤ 65535) (hk : k < 8 + r.length) : opnP ((recP r).take k) = ([], 0, true) := by
  by_cases h8 : k < 8
  · exact opnP_short (by simp; omega)
  · have e0 : ((recP r).take k).length = k := by rw [List.length_take, recP_len]; omega
    have e1 : num1 ((recP r).take k) = r.length := by
      have := num1_rec r [] h
      rw [List.append_nil] at this
      unfold num1 at this ⊢
      rw [List.take_take, show min 4 k = 4 from by omega]; exact this
    have e2 : num2 ((recP r).take k) = 4294967295 - r.length := by
      have := num2_rec r [] h
      rw [List.append_nil] at this
      unfold num2 at this ⊢
      rw [List.drop_take, List.take_take, show min 4 (k - 4) = 4 from by omega]; exact this
    exact opnP_torn (by omega) (by omega) (by omega) (by omega)
/-- records cut off anywhere: the first ones, whole. -/
theorem opnP_take (l : List (List Int)) (h : ∀ r ∈ l, r.length ≤ 65535) : ∀ k, k ≤ (layP l).length → ∃ j, j ≤ l.length ∧ opnP ((layP l).take k) = (l.take j, (layP (l.take j)).length, true) ∧ (layP (l.take j)).length ≤ k ∧ ∀ i, i ≤ l.length → (layP (l.take i)).length ≤ k → i ≤ j := by
  induction l with
  | nil =>
    intro k hk
    refine ⟨0, Nat.le_refl _, ?_, ?_, fun i hi _ => hi⟩
    · simp [layP, opnP_nil]
    · simp [layP]
  | cons r l ih =>
    intro k hk
    have hr := h r (by simp)
    rw [layP_cons, List.length_append, recP_len] at hk
    by_cases hlt : k < 8 + r.length
    · refine ⟨0, Nat.zero_le _, ?_, by simp [layP], fun i hi hle => ?_⟩
      · rw [layP_cons, List.take_append_of_le_length (by rw [recP_len]; omega), opnP_cut r k hr hlt]
        simp [layP]
      · cases i with
        | zero => exact Nat.le_refl _
        | succ i => rw [List.take_succ_cons, layP_cons, List.length_append, recP_len] at hle; omega
    · obtain ⟨j, h1, h2, h3, h4⟩ := ih (fun x hx => h x (by simp [hx])) (k - (8 + r.length)) (by omega)
      refine ⟨j + 1, by simpa using h1, ?_, ?_, fun i hi hle => ?_⟩
      · have e : (layP (r :: l)).take k = recP r ++ (layP l).take (k - (8 + r.length)) := by
          rw [layP_cons, List.take_append, recP_len, List.take_of_length_le (by rw [recP_len]; omega)]
        rw [e, opnP_rec r _ hr, h2, List.take_succ_cons, layP_cons, List.length_append, recP_len]
      · rw [List.take_succ_cons, layP_cons, List.length_append, recP_len]; omega
      · cases i with
        | zero => omega
        | succ i =>
          rw [List.take_succ_cons, layP_cons, List.length_append, recP_len] at hle
          have := h4 i (by simpa using hi) (by omega)
          omega
/-- where the records end. -/
theorem opnP_at (b : List Int) : (opnP b).2.1 ≤ b.length := by
  induction hl : b.length using Nat.strongRecOn generalizing b with
  | ind n ih =>
    subst hl
    rw [opnP_eq]
    split
    · exact Nat.zero_le _
    · split
      · exact Nat.zero_le _
      · split
        · exact Nat.zero_le _
        · have := ih (b.drop (8 + (num1 b).toNat)).length (by rw [List.length_drop]; omega) _ rfl
          rw [List.length_drop] at this
          simp only []
          omega
/-- a step of a loop that reads them. -/
theorem opnP_step (b : List Int) (at_ : Nat) (out : List (List Int)) (h : opnP b = (out ++ (opnP (b.drop at_)).1, at_ + (opnP (b.drop at_)).2.1, (opnP (b.drop at_)).2.2)) (h8 : 8 ≤ (b.drop at_).length) (h1 : num2 (b.drop at_) = 4294967295 - num1 (b.drop at_)) (h2 : num1 (b.drop at_) ≤ 65535) (h3 : num1 (b.drop at_) ≤ (((b.drop at_).length - 8 : Nat) : Int)) :
    opnP b = ((out ++ [((b.drop at_).drop 8).take (num1 (b.drop at_)).toNat]) ++ (opnP (b.drop (at_ + (8 + (num1 (b.drop at_)).toNat)))).1, (at_ + (8 + (num1 (b.drop at_)).toNat)) + (opnP (b.drop (at_ + (8 + (num1 (b.drop at_)).toNat)))).2.1, (opnP (b.drop (at_ + (8 + (num1 (b.drop at_)).toNat)))).2.2) := by
  have hd : (b.drop at_).drop (8 + (num1 (b.drop at_)).toNat) = b.drop (at_ + (8 + (num1 (b.drop at_)).toNat)) := List.drop_drop
  rw [h, opnP_one h8 h1 h2 h3, hd]
  simp only [List.append_assoc, List.cons_append, List.nil_append, Nat.add_assoc]
theorem opnP_lens (b : List Int) : ∀ r ∈ (opnP b).1, r.length ≤ b.length := by
  induction hl : b.length using Nat.strongRecOn generalizing b with
  | ind n ih =>
    subst hl
    rw [opnP_eq]
    split
    · intro r hr; cases hr
    · split
      · intro r hr; cases hr
      · split
        · intro r hr; cases hr
        · intro r hr
          rcases List.mem_cons.1 hr with rfl | hr
          · simp only [List.length_take, List.length_drop]; omega
          · have := ih (b.drop (8 + (num1 b).toNat)).length (by rw [List.length_drop]; omega) _ rfl r hr
            rw [List.length_drop] at this
            omega
end Go.Proofs.YtillhpgdlmeajaaGreatDoor
