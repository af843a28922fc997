/-
  Regions that are carried out in the text's order: what each operation tells, one look at each (the ordered twin of RGrow: for a long statement of many guards the walk's own steps have no end).
-/
import Derived.Test.YtdjofooggofpkaaGreatDoorKRGrows
namespace Go.Proofs.YtdjofooggofpkaaGreatDoor
open Go.RowKit
def lookO (l : List Oper) (i : Nat) : Tmp × Option Nat → Bool
  | (t, some j) => decide (j < i) && dstAt l j == some t
  | (t, none) => (List.range i).all fun k => dstAt l k != some t
def regionOkO (l : List Oper) (kss : List (List (Tmp × Option Nat))) (n : Nat) : Bool :=
  (List.range l.length).all fun i =>
    match l[i]?, kss[i]? with
    | some o, some ks => ks.all (lookO l i) && (match o.dst with | some d => decide (d < n) && (List.range i).all (fun k => dstAt l k != some d) | none => false)
    | _, _ => false
section
variable {P : Program} {l : List Oper} {Q : Exit → Act → World → Prop} {a0 : Act} {w0 : World} {Rs : List Tell} {kss : List (List (Tmp × Option Nat))} {n i : Nat} {a : Act} {w w' : World} {o : Oper} {R : Tell} {v : Value}
theorem okO_at (h : regionOkO l kss n = true) {i : Nat} {o : Oper} (ho : l[i]? = some o) : ∃ ks d, kss[i]? = some ks ∧ o.dst = some d ∧ d < n ∧ (∀ k ∈ ks, lookO l i k = true) ∧ ∀ k, k < i → dstAt l k ≠ some d := by
  have hi : i < l.length := (List.getElem?_eq_some_iff.1 ho).1
  have h1 := List.all_eq_true.1 h i (by simpa using hi)
  rw [ho] at h1
  cases hk : kss[i]? with
  | none => rw [hk] at h1; simp at h1
  | some ks =>
    rw [hk] at h1
    simp only at h1
    cases hd : o.dst with
    | none => rw [hd] at h1; simp at h1
    | some d =>
      rw [hd] at h1
      simp only [Bool.and_eq_true, List.all_eq_true, decide_eq_true_eq, List.mem_range, bne_iff_ne, ne_eq] at h1
      exact ⟨ks, d, rfl, rfl, h1.2.1, h1.1, h1.2.2⟩
structure InvO (l : List Oper) (Rs : List Tell) (a0 : Act) (k : Nat) (a : Act) (w : World) : Prop where
  size : a.tmps.size = a0.tmps.size
  told : ∀ j d, j < k → dstAt l j = some d → (Rs.getD j (fun _ _ => True)) (a.eval (.tmp d)) w
  rest : ∀ t, (∀ j, j < k → dstAt l j ≠ some t) → a.eval (.tmp t) = a0.eval (.tmp t)
theorem knowsO (hinv : InvO l Rs a0 i a w) : ∀ ks : List (Tmp × Option Nat), (∀ k ∈ ks, lookO l i k = true) → Knows a0 Rs a w ks
  | [], _ => trivial
  | (t, some j) :: ks, h => by
    have h0 := h _ (List.mem_cons_self ..)
    simp only [lookO, Bool.and_eq_true, decide_eq_true_eq, beq_iff_eq] at h0
    exact ⟨hinv.told j t h0.1 h0.2, knowsO hinv ks (fun k hk => h k (List.mem_cons_of_mem _ hk))⟩
  | (t, none) :: ks, h => by
    have h0 := h _ (List.mem_cons_self ..)
    simp only [lookO, List.all_eq_true, List.mem_range, bne_iff_ne, ne_eq] at h0
    exact ⟨hinv.rest t h0, knowsO hinv ks (fun k hk => h k (List.mem_cons_of_mem _ hk))⟩
theorem invO_step (hok : regionOkO l kss a0.tmps.size = true) (hst : ∀ R ∈ Rs, Tell.stable R) (hinv : InvO l Rs a0 i a w) (ho : l[i]? = some o) (hR : Rs[i]? = some R) (hk : Kp [] w w') (hv : R v w') : InvO l Rs a0 (i + 1) (a.put o.dst v) w' := by
  obtain ⟨ks, d, _, hd, hdn, _, hne⟩ := okO_at hok ho
  have hdi : dstAt l i = some d := by simp [dstAt, ho, hd]
  rw [hd]
  refine ⟨?_, fun j e hj he => ?_, fun t ht => ?_⟩
  · rw [← hinv.size]; simp [Act.put]
  · rcases Nat.lt_or_ge j i with h | h
    · have hed : d ≠ e := fun x => hne j h (by rw [he, x])
      rw [eval_put_ne hed]
      have h1 := hinv.told j e h he
      rw [List.getD_eq_getElem?_getD] at h1 ⊢
      cases hj' : Rs[j]? with
      | none => simp
      | some R' =>
        rw [hj'] at h1
        exact hst R' (List.mem_of_getElem? hj') _ _ _ hk h1
    · obtain rfl : j = i := by omega
      rw [hdi] at he
      injection he with he
      subst he
      rw [eval_put_same (by rw [hinv.size]; exact hdn), List.getD_eq_getElem?_getD, hR]
      exact hv
  · have hdt : d ≠ t := fun x => ht i (by omega) (by rw [hdi, x])
    rw [eval_put_ne hdt]
    exact hinv.rest t (fun j hj => ht j (by omega))
theorem wpList_growO (hok : regionOkO l kss a0.tmps.size = true) (hst : ∀ R ∈ Rs, Tell.stable R) (hs : StepsR P l.toArray a0 w0 Rs l kss Rs) :
    ∀ (suf : List Oper) (rs : List Tell) (k : Nat) (a : Act) (w : World), l.drop k = suf → Rs.drop k = rs → InvO l Rs a0 k a w → Kp [] w0 w → (∀ w', Kp [] w w' → FinR Q suf rs a w') → wpList P l.toArray Q suf a w
  | [], rs, k, a, w, _, _, _, _, hf => by
    have h := hf w (Kp.refl _ _)
    unfold FinR at h
    exact h
  | o :: suf, rs, k, a, w, hl, hr, hinv, hk0, hf => by
    obtain ⟨hlen, _, hat⟩ := StepsR.at _ hs
    have hkl : k < l.length := by
      rcases Nat.lt_or_ge k l.length with h | h
      · exact h
      · rw [List.drop_eq_nil_of_le h] at hl; cases hl
    have ho : l[k]? = some o := by
      have h := congrArg (fun x => x[0]?) hl
      simpa using h
    have hR : Rs[k]? = some (Rs[k]'(by omega)) := List.getElem?_eq_getElem (by omega)
    obtain ⟨ks, d, hks, hd, hdn, hlk, _⟩ := okO_at hok ho
    have hw := hat k o ks _ ho hks hR a w hk0 (knowsO hinv ks hlk)
    have hrs : rs = Rs[k]'(by omega) :: Rs.drop (k + 1) := by rw [← hr]; exact List.drop_eq_getElem_cons (by omega)
    have hsuf : l.drop (k + 1) = suf := by
      have h := congrArg List.tail hl
      simpa using h
    have next : ∀ v w', Kp [] w w' → (Rs[k]'(by omega)) v w' → wpList P l.toArray Q suf (a.put o.dst v) w' := fun v w' hk hv =>
      wpList_growO hok hst hs suf _ (k + 1) _ w' hsuf rfl (invO_step hok hst hinv ho hR hk hv) (hk0.trans hk) (fun w2 h2 => by
        have h := hf w2 (hk.trans h2)
        rw [hrs] at h
        exact h v (hst _ (List.mem_of_getElem? hR) _ _ _ h2 hv))
    unfold wants at hw
    unfold wpList
    split
    · rename_i hwn
      rw [if_pos hwn] at hw
      refine .inl ?_
      unfold Oper.wp
      generalize (execOp a.eval o).run P w = r at *
      cases r with
      | ok x w' =>
        cases x <;> simp only [grown] at hw <;> simp only [Oper.upon]
        case value v => exact next v w' hw.1 hw.2
        case skip => exact next undef w' hw.1 hw.2
        case enter f args =>
          refine hw.mono ?_
          rintro e w'' ⟨v, rfl, h1, h2⟩
          exact next v w'' h1 h2
      | halt x w' => simp only [grown] at hw
    · rename_i hwn
      rw [if_neg hwn] at hw
      exact next undef w (Kp.refl _ _) hw
/-- **One look at each operation, in the text's order.** -/
theorem region_growO {id : Nat} {w : World} (Rs : List Tell) (kss : List (List (Tmp × Option Nat))) (hok : regionOkO l kss a0.tmps.size = true) (hst : ∀ R ∈ Rs, Tell.stable R)
    (hs : StepsR P l.toArray a0 w Rs l kss Rs) (hf : ∀ w', Kp [] w w' → FinR Q l Rs a0 w') : (Code.region id l.toArray false).wp P Q a0 w :=
  wp_region_lit (wpList_growO hok hst hs l Rs 0 a0 w rfl rfl ⟨rfl, fun j _ h => absurd h (Nat.not_lt_zero j), fun _ _ => rfl⟩ (Kp.refl _ _) hf)
end
end Go.Proofs.YtdjofooggofpkaaGreatDoor
