/-
  Chapter 15 as plain functions: items each once, their numbers, a batch as a record, what a journal's records hold.
-/
import Derived.Test.YtillhpgdlmeajaaGreatDoorKMSpec
import Derived.Test.YtillhpgdlmeajaaGreatDoorKJSpec
namespace Go.Proofs.YtillhpgdlmeajaaGreatDoor
open Go.RowKit
open Go.Proofs

/-- one more item, if it is new. -/
def insU (l : List (List Int)) (x : List Int) : List (List Int) := if x ∈ l then l else l ++ [x]
/-- all items behind an Add. -/
def allU (l xs : List (List Int)) : List (List Int) := xs.foldl insU l
/-- the number of each. -/
def numU (l xs : List (List Int)) : List Nat := xs.map fun x => (allU l xs).idxOf x
/-- the new ones. -/
def newU (l xs : List (List Int)) : List (List Int) := (allU l xs).drop l.length
theorem insU_old {l : List (List Int)} {x : List Int} (h : x ∈ l) : insU l x = l := if_pos h
theorem insU_new {l : List (List Int)} {x : List Int} (h : x ∉ l) : insU l x = l ++ [x] := if_neg h
theorem insU_pre (l : List (List Int)) (x : List Int) : ∃ t, insU l x = l ++ t := by
  unfold insU
  split
  · exact ⟨[], by simp⟩
  · exact ⟨[x], rfl⟩
theorem insU_mem (l : List (List Int)) (x : List Int) : x ∈ insU l x := by
  unfold insU
  split
  · assumption
  · simp
theorem insU_nodup {l : List (List Int)} {x : List Int} (h : l.Nodup) : (insU l x).Nodup := by
  unfold insU
  split
  · exact h
  · rename_i hx
    rw [List.nodup_append]
    exact ⟨h, by simp, fun a ha b hb => by simp at hb; subst hb; exact fun e => hx (e ▸ ha)⟩
theorem allU_nil (l : List (List Int)) : allU l [] = l := rfl
theorem allU_cons (l : List (List Int)) (x : List Int) (xs : List (List Int)) : allU l (x :: xs) = allU (insU l x) xs := rfl
theorem allU_snoc (l xs : List (List Int)) (x : List Int) : allU l (xs ++ [x]) = insU (allU l xs) x := by simp [allU, List.foldl_append]
theorem allU_append (l xs ys : List (List Int)) : allU l (xs ++ ys) = allU (allU l xs) ys := by simp [allU, List.foldl_append]
theorem allU_pre (l xs : List (List Int)) : ∃ t, allU l xs = l ++ t := by
  induction xs generalizing l with
  | nil => exact ⟨[], by simp [allU]⟩
  | cons x xs ih =>
    obtain ⟨t, ht⟩ := insU_pre l x
    obtain ⟨u, hu⟩ := ih (insU l x)
    exact ⟨t ++ u, by rw [allU_cons, hu, ht, List.append_assoc]⟩
theorem allU_new (l xs : List (List Int)) : allU l xs = l ++ newU l xs := by
  obtain ⟨t, ht⟩ := allU_pre l xs
  unfold newU
  rw [ht, List.drop_left]
theorem allU_len (l xs : List (List Int)) : (allU l xs).length = l.length + (newU l xs).length := by
  have := congrArg List.length (allU_new l xs)
  rwa [List.length_append] at this
theorem allU_nodup {l xs : List (List Int)} (h : l.Nodup) : (allU l xs).Nodup := by
  induction xs generalizing l with
  | nil => exact h
  | cons x xs ih => exact ih (insU_nodup h)
theorem allU_mem (l xs : List (List Int)) (y : List Int) : y ∈ allU l xs ↔ y ∈ l ∨ y ∈ xs := by
  induction xs generalizing l with
  | nil => simp [allU]
  | cons x xs ih =>
    rw [allU_cons, ih]
    unfold insU
    split
    · rename_i hx
      constructor
      · rintro (h | h)
        · exact .inl h
        · exact .inr (List.mem_cons_of_mem _ h)
      · rintro (h | h)
        · exact .inl h
        · rcases List.mem_cons.1 h with rfl | h
          · exact .inl hx
          · exact .inr h
    · simp only [List.mem_append, List.mem_cons, List.not_mem_nil, or_false]
      constructor
      · rintro ((h | h) | h)
        · exact .inl h
        · exact .inr (.inl h)
        · exact .inr (.inr h)
      · rintro (h | h | h)
        · exact .inl (.inl h)
        · exact .inl (.inr h)
        · exact .inr h
theorem allU_le (l xs : List (List Int)) : (allU l xs).length ≤ l.length + xs.length := by
  induction xs generalizing l with
  | nil => simp [allU]
  | cons x xs ih =>
    have := ih (insU l x)
    rw [allU_cons]
    unfold insU at this ⊢
    split at this
    · rename_i hx; rw [if_pos hx]; simp only [List.length_cons]; omega
    · rename_i hx; rw [if_neg hx]; simp only [List.length_append, List.length_cons, List.length_nil] at this ⊢; omega
theorem newU_le (l xs : List (List Int)) : (newU l xs).length ≤ xs.length := by
  have := allU_le l xs
  have := allU_len l xs
  omega
theorem newU_mem {l xs : List (List Int)} {y : List Int} (hl : l.Nodup) (h : y ∈ newU l xs) : y ∈ xs ∧ y ∉ l := by
  have hn := allU_nodup (xs := xs) hl
  rw [allU_new] at hn
  have hd := (List.nodup_append.1 hn).2.2
  have h1 : y ∉ l := fun hy => hd y hy y h rfl
  have h2 : y ∈ allU l xs := by rw [allU_new]; exact List.mem_append.2 (.inr h)
  exact ⟨((allU_mem l xs y).1 h2).resolve_left h1, h1⟩
theorem newU_snoc (l xs : List (List Int)) (x : List Int) : newU l (xs ++ [x]) = if x ∈ allU l xs then newU l xs else newU l xs ++ [x] := by
  have h := allU_snoc l xs x
  rw [allU_new l xs] at h
  by_cases hx : x ∈ allU l xs
  · rw [if_pos hx]
    rw [allU_new] at hx
    rw [insU_old hx, allU_new] at h
    exact List.append_cancel_left h
  · rw [if_neg hx]
    rw [allU_new] at hx
    rw [insU_new hx, allU_new, List.append_assoc] at h
    exact List.append_cancel_left h
theorem idx_pre {l t : List (List Int)} {x : List Int} (h : x ∈ l) : (l ++ t).idxOf x = l.idxOf x := by rw [List.idxOf_append, if_pos h]
theorem idx_post {l t : List (List Int)} {x : List Int} (h : x ∉ l) : (l ++ t).idxOf x = t.idxOf x + l.length := by rw [List.idxOf_append, if_neg h]
theorem idx_none {l : List (List Int)} {x : List Int} (h : x ∉ l) : l.idxOf x = l.length := List.idxOf_eq_length h
theorem idx_ins (l : List (List Int)) (x : List Int) : (insU l x).idxOf x = l.idxOf x := by
  unfold insU
  split
  · rfl
  · rename_i h
    rw [idx_post h, idx_none h]
    simp
theorem numU_snoc (l xs : List (List Int)) (x : List Int) : numU l (xs ++ [x]) = numU l xs ++ [(allU l xs).idxOf x] := by
  unfold numU
  rw [List.map_append, allU_snoc]
  congr 1
  · refine List.map_congr_left (fun y hy => ?_)
    obtain ⟨t, ht⟩ := insU_pre (allU l xs) x
    rw [ht, idx_pre ((allU_mem l xs y).2 (.inr hy))]
  · simp [idx_ins]
theorem numU_len (l xs : List (List Int)) : (numU l xs).length = xs.length := by simp [numU]
theorem numU_nil (l : List (List Int)) : numU l [] = [] := rfl
theorem newU_nil (l : List (List Int)) : newU l [] = [] := by simp [newU, allU]

/-- an item in a batch. -/
def itmU (x : List Int) : List Int := be2 x.length ++ x
/-- a batch. -/
def batU (l : List (List Int)) : List Int := bq l.length ++ (l.map itmU).flatten
theorem itmU_len (x : List Int) : (itmU x).length = 2 + x.length := by simp [itmU, be2]; omega
theorem itmU_bs {x : List Int} (h : Bs x) : Bs (itmU x) := fun b hb => by
  rcases List.mem_append.1 hb with hb | hb
  · exact be2_bs _ b hb
  · exact h b hb
theorem flatU_bs {l : List (List Int)} (h : ∀ x ∈ l, Bs x) : Bs (l.map itmU).flatten := fun b hb => by
  obtain ⟨x, hx, hb⟩ := List.mem_flatten.1 hb
  obtain ⟨y, hy, rfl⟩ := List.mem_map.1 hx
  exact itmU_bs (h y hy) b hb
theorem batU_bs {l : List (List Int)} (h : ∀ x ∈ l, Bs x) : Bs (batU l) := fun b hb => by
  rcases List.mem_append.1 hb with hb | hb
  · exact bq_bs _ b hb
  · exact flatU_bs h b hb
theorem flatU_len (l : List (List Int)) (m : Nat) (h : ∀ x ∈ l, x.length ≤ m) : ((l.map itmU).flatten).length ≤ l.length * (2 + m) := by
  induction l with
  | nil => simp
  | cons x l ih =>
    have h1 := h x (by simp)
    have h2 := ih (fun y hy => h y (by simp [hy]))
    simp only [List.map_cons, List.flatten_cons, List.length_append, itmU_len, List.length_cons, Nat.add_mul, Nat.one_mul]
    omega
theorem batU_len (l : List (List Int)) (m : Nat) (h : ∀ x ∈ l, x.length ≤ m) : (batU l).length ≤ 4 + l.length * (2 + m) := by
  have := flatU_len l m h
  unfold batU
  rw [List.length_append, bq_len]
  omega
/-- an item of a batch is no longer than it. -/
theorem itm_le {l : List (List Int)} {x : List Int} (h : x ∈ l) : x.length ≤ (batU l).length := by
  have h1 : (itmU x).length ≤ ((l.map itmU).flatten).length := by
    induction l with
    | nil => cases h
    | cons y l ih =>
      simp only [List.map_cons, List.flatten_cons, List.length_append]
      rcases List.mem_cons.1 h with rfl | h
      · omega
      · have := ih h; omega
  unfold batU
  rw [List.length_append]
  rw [itmU_len] at h1
  omega

/-- n items, and nothing behind them. -/
def itsU : Nat → List Int → Option (List (List Int))
  | 0, bs => if bs = [] then some [] else none
  | n + 1, bs => if (tkb false bs 65535).2.1 then none else (itsU n (tkb false bs 65535).2.2).map ((tkb false bs 65535).1 :: ·)
/-- a record's items. -/
def unlU (b : List Int) : Option (List (List Int)) := if b.length < 4 then none else if (val (b.take 4)).toNat = 0 then none else itsU (val (b.take 4)).toNat (b.drop 4)
/-- the items of records, behind those of earlier ones. -/
def gatU : List (List Int) → List (List Int) → Option (List (List Int))
  | l, [] => some l
  | l, r :: rs => match unlU r with
    | none => none
    | some xs => if (l ++ xs).Nodup then gatU (l ++ xs) rs else none
def redU (rs : List (List Int)) : Option (List (List Int)) := match gatU [] rs with
  | none => none
  | some l => if l.length ≤ 256 then some l else none
theorem itsU_bat (l : List (List Int)) (h : ∀ x ∈ l, x.length ≤ 65535) : itsU l.length (l.map itmU).flatten = some l := by
  induction l with
  | nil => rfl
  | cons x l ih =>
    have e := tkb_front x ((l.map itmU).flatten) 65535 (h x (by simp)) (by omega)
    have e2 : (((x :: l).map itmU).flatten) = (be2 x.length ++ x) ++ (l.map itmU).flatten := rfl
    rw [e2]
    show itsU (l.length + 1) _ = _
    unfold itsU
    rw [show ((65535 : Nat) : Int) = 65535 from rfl] at e
    rw [e, if_neg (by simp)]
    simp only [ih (fun y hy => h y (by simp [hy])), Option.map_some]
theorem unlU_bat {l : List (List Int)} (h : ∀ x ∈ l, x.length ≤ 65535) (h0 : l ≠ []) (hl : l.length ≤ 4294967295) : unlU (batU l) = some l := by
  have e1 : (batU l).take 4 = bq l.length := by unfold batU; rw [List.take_left' (bq_len _)]
  have e2 : (batU l).drop 4 = (l.map itmU).flatten := by unfold batU; rw [List.drop_left' (bq_len _)]
  have e3 : (batU l).length = 4 + ((l.map itmU).flatten).length := by unfold batU; rw [List.length_append, bq_len]
  have e4 : val (bq (l.length : Int)) = l.length := val_bq (by omega) (by omega)
  have h1 : 0 < l.length := List.length_pos_iff.2 h0
  unfold unlU
  rw [if_neg (by omega), e1, e2, e4, if_neg (by simp; omega)]
  exact itsU_bat l h
theorem gatU_snoc (l rs : List (List Int)) (r : List Int) : gatU l (rs ++ [r]) = (gatU l rs).bind (fun m => gatU m [r]) := by
  induction rs generalizing l with
  | nil => rfl
  | cons x rs ih =>
    simp only [List.cons_append, gatU]
    split
    · rfl
    · split
      · exact ih _
      · rfl
theorem gatU_add {rs l xs : List (List Int)} (h : gatU [] rs = some l) (hn : (l ++ xs).Nodup) (h0 : xs ≠ []) (hs : ∀ x ∈ xs, x.length ≤ 65535) (hl : xs.length ≤ 4294967295) : gatU [] (rs ++ [batU xs]) = some (l ++ xs) := by
  rw [gatU_snoc, h]
  simp only [Option.bind_some, gatU]
  rw [unlU_bat hs h0 hl]
  simp only []
  rw [if_pos hn]
theorem gatU_nodup {rs : List (List Int)} : ∀ {l m : List (List Int)}, l.Nodup → gatU l rs = some m → m.Nodup := by
  induction rs with
  | nil => intro l m h e; simp only [gatU, Option.some.injEq] at e; exact e ▸ h
  | cons r rs ih =>
    intro l m h e
    simp only [gatU] at e
    split at e
    · cases e
    · split at e
      · rename_i hn; exact ih hn e
      · cases e
theorem gatU_pre {rs : List (List Int)} : ∀ {l m : List (List Int)}, gatU l rs = some m → ∃ t, m = l ++ t := by
  induction rs with
  | nil => intro l m e; simp only [gatU, Option.some.injEq] at e; exact ⟨[], by simp [e]⟩
  | cons r rs ih =>
    intro l m e
    simp only [gatU] at e
    split at e
    · cases e
    · split at e
      · obtain ⟨t, ht⟩ := ih e; exact ⟨_, by rw [ht, List.append_assoc]⟩
      · cases e
end Go.Proofs.YtillhpgdlmeajaaGreatDoor
