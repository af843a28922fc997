/-
  Regions that draw their order, stores among them: an invariant over what was done, frame and world; of each operation that yields something a predicate tells what, and stays true along a relation; one look at each operation serves every order.
-/
import Derived.Test.YtillhpgdlmeajaaGreatDoorQB1
import Derived.Test.YtillhpgdlmeajaaGreatDoorQB5
import Derived.Test.YtillhpgdlmeajaaGreatDoorQB2
import Derived.Deep.RegionHeld3
import Derived.Test.YtillhpgdlmeajaaGreatDoorQB3
import Derived.Test.YtillhpgdlmeajaaGreatDoorQB4
namespace Go.Proofs.YtillhpgdlmeajaaGreatDoor
open Go.RowKit
/-- what was done is closed under what must come ahead. -/
def ClosedL (l : List Oper) (listed : Array Bool) : Prop := ∀ (i : Nat) o, l[i]? = some o → listed.getD i false = true → ∀ j ∈ odeps o, listed.getD j false = true
def StepsL (K : World → World → Prop) (G : Array Bool → Act → World → Prop) (P : Program) (l0 : List Oper) (a0 : Act) (Rs : List Tell) : Nat → List Oper → List (List (Tmp × Option Nat)) → List Tell → Prop
  | k, o :: l, ks :: kss, R :: rs => (∀ listed a w, listed.getD k false = false → (∀ j ∈ odeps o, listed.getD j false = true) → ClosedL l0 listed → k < listed.size → G listed a w → Knows a0 Rs a w ks → wantsG K (G (listed.setIfInBounds k true)) P l0.toArray o a w R) ∧ StepsL K G P l0 a0 Rs (k + 1) l kss rs
  | _, [], [], [] => True
  | _, _, _, _ => False
theorem StepsL.at {K : World → World → Prop} {G : Array Bool → Act → World → Prop} {P : Program} {l0 : List Oper} {a0 : Act} {Rs : List Tell} : ∀ {l : List Oper} {kss : List (List (Tmp × Option Nat))} {rs : List Tell} {k : Nat}, StepsL K G P l0 a0 Rs k l kss rs → l.length = rs.length ∧ l.length = kss.length ∧ ∀ (i : Nat) o ks R, l[i]? = some o → kss[i]? = some ks → rs[i]? = some R → ∀ listed a w, listed.getD (k + i) false = false → (∀ j ∈ odeps o, listed.getD j false = true) → ClosedL l0 listed → k + i < listed.size → G listed a w → Knows a0 Rs a w ks → wantsG K (G (listed.setIfInBounds (k + i) true)) P l0.toArray o a w R
  | [], [], [], _, _ => ⟨rfl, rfl, fun i o ks R h => by simp at h⟩
  | o :: l, ks :: kss, R :: rs, k, h => by
    obtain ⟨h1, h2, h3⟩ := StepsL.at h.2
    refine ⟨by simp [h1], by simp [h2], fun i o' ks' R' ho hk hR => ?_⟩
    cases i with
    | zero =>
      simp at ho hk hR
      subst ho; subst hk; subst hR
      exact h.1
    | succ i =>
      have := h3 i o' ks' R' (by simpa using ho) (by simpa using hk) (by simpa using hR)
      rw [show k + (i + 1) = k + 1 + i by omega]
      exact this
  | [], [], _ :: _, _, h => h.elim
  | [], _ :: _, [], _, h => h.elim
  | [], _ :: _, _ :: _, _, h => h.elim
  | _ :: _, [], [], _, h => h.elim
  | _ :: _, [], _ :: _, _, h => h.elim
  | _ :: _, _ :: _, [], _, h => h.elim
def regionOkN (l : List Oper) (kss : List (List (Tmp × Option Nat))) (n : Nat) : Bool :=
  (List.range l.length).all fun i =>
    match l[i]?, kss[i]? with
    | some o, some ks => (odeps o).all (· < i) && ks.all (lookOk l i o) && (match o.dst with | some d => decide (d < n) && (List.range i).all (fun k => dstAt l k != some d) | none => true)
    | _, _ => false
section
variable {K : World → World → Prop} {G : Array Bool → Act → World → Prop} {P : Program} {l : List Oper} {Q : Exit → Act → World → Prop} {a0 : Act} {Rs : List Tell} {kss : List (List (Tmp × Option Nat))} {n i : Nat} {listed : Array Bool} {a : Act} {w w' : World} {o : Oper} {R : Tell} {v : Value}
theorem regionOkN_at (h : regionOkN l kss n = true) {i : Nat} {o : Oper} (ho : l[i]? = some o) : ∃ ks, kss[i]? = some ks ∧ (∀ j ∈ odeps o, j < i) ∧ (∀ k ∈ ks, lookOk l i o k = true) ∧ ∀ d, o.dst = some d → d < n ∧ ∀ k, k < i → dstAt l k ≠ some d := by
  have hi : i < l.length := (List.getElem?_eq_some_iff.1 ho).1
  have h1 := List.all_eq_true.1 h i (List.mem_range.2 hi)
  simp only [ho] at h1
  cases hk : kss[i]? with
  | none => simp [hk] at h1
  | some ks =>
    simp only [hk, Bool.and_eq_true, List.all_eq_true, decide_eq_true_eq] at h1
    obtain ⟨⟨h2, h3⟩, h4⟩ := h1
    refine ⟨ks, rfl, h2, h3, fun d hd => ?_⟩
    simp only [hd, Bool.and_eq_true, List.all_eq_true, decide_eq_true_eq, List.mem_range, bne_iff_ne, ne_eq] at h4
    exact h4
theorem dst_injN (h : regionOkN l kss n = true) {i j : Nat} {d : Tmp} (hi : dstAt l i = some d) (hj : dstAt l j = some d) : i = j := by
  have key : ∀ i j, i < j → dstAt l i = some d → dstAt l j = some d → False := by
    intro i j hij hi hj
    unfold dstAt at hj
    cases ho : l[j]? with
    | none => simp [ho] at hj
    | some o =>
      simp only [ho, Option.bind_some] at hj
      obtain ⟨ks, _, _, _, h6⟩ := regionOkN_at h ho
      exact (h6 d hj).2 i hij hi
  rcases Nat.lt_trichotomy i j with h1 | h1 | h1
  · exact (key i j h1 hi hj).elim
  · exact h1
  · exact (key j i h1 hj hi).elim
structure InvL (G : Array Bool → Act → World → Prop) (l : List Oper) (Rs : List Tell) (a0 : Act) (listed : Array Bool) (a : Act) (w : World) : Prop where
  g : G listed a w
  size : a.tmps.size = a0.tmps.size
  defers : a.defers = a0.defers
  ls : listed.size = l.length
  told : ∀ i d R, listed.getD i false = true → dstAt l i = some d → Rs[i]? = some R → R (a.eval (.tmp d)) w
  rest : ∀ t, (∀ i, listed.getD i false = true → dstAt l i ≠ some t) → a.eval (.tmp t) = a0.eval (.tmp t)
  closed : ClosedL l listed
theorem knows_ofL (hinv : InvL G l Rs a0 listed a w) (hnot : listed.getD i false = false) (hdeps : ∀ j ∈ odeps o, listed.getD j false = true) (hlen : l.length = Rs.length) : ∀ ks : List (Tmp × Option Nat), (∀ k ∈ ks, lookOk l i o k = true) → Knows a0 Rs a w ks
  | [], _ => trivial
  | (t, some j) :: ks, h => by
    refine ⟨?_, knows_ofL hinv hnot hdeps hlen ks (fun k hk => h k (by simp [hk]))⟩
    have h1 := h (t, some j) (by simp)
    simp only [lookOk, Bool.and_eq_true, List.contains_iff_mem, beq_iff_eq] at h1
    obtain ⟨hd, hdst⟩ := h1
    have hl := hdeps j hd
    have hlt : j < Rs.length := by
      unfold dstAt at hdst
      cases hx : l[j]? with
      | none => simp [hx] at hdst
      | some _ => rw [← hlen]; exact (List.getElem?_eq_some_iff.1 hx).1
    rw [List.getD_eq_getElem?_getD, List.getElem?_eq_getElem hlt, Option.getD_some]
    exact hinv.told j t _ hl hdst (List.getElem?_eq_getElem hlt)
  | (t, none) :: ks, h => by
    refine ⟨?_, knows_ofL hinv hnot hdeps hlen ks (fun k hk => h k (by simp [hk]))⟩
    have h1 := h (t, none) (by simp)
    simp only [lookOk, List.all_eq_true, List.mem_range, Bool.or_eq_true, beq_iff_eq, bne_iff_ne, ne_eq] at h1
    refine hinv.rest t (fun k hk hkd => ?_)
    have hlt : k < l.length := by
      unfold dstAt at hkd
      cases hx : l[k]? with
      | none => simp [hx] at hkd
      | some _ => exact (List.getElem?_eq_some_iff.1 hx).1
    rcases h1 k hlt with (h2 | h2) | h2
    · subst h2; rw [hk] at hnot; cases hnot
    · exact h2 hkd
    · rw [List.getElem?_eq_getElem hlt] at h2
      simp only [Option.map_some, Option.getD_some, List.contains_iff_mem] at h2
      have := hinv.closed k _ (List.getElem?_eq_getElem hlt) hk i h2
      rw [this] at hnot; cases hnot
theorem put_none (a : Act) (v : Value) : a.put none v = a := rfl
theorem fin_ofL (hok : regionOkN l kss a0.tmps.size = true) (hN : ∀ k R, Rs[k]? = some R → dstAt l k = none → ∀ w, R undef w) (hlen : l.length = Rs.length) (hinv : InvL G l Rs a0 listed a w) (hall : ∀ i, i < l.length → listed.getD i false = true) :
    ∀ (m : List Oper) (rs : List Tell) (k : Nat) (b : Act), (∀ j, m[j]? = l[k + j]?) → (∀ j, rs[j]? = Rs[k + j]?) → b.tmps.size = a0.tmps.size → b.defers = a0.defers →
    (∀ t, (∀ j d, dstAt l (k + j) = some d → d ≠ t) → b.eval (.tmp t) = a.eval (.tmp t)) → FinR Q m rs b w → Q .normal a w
  | [], rs, k, b, hm, hrs, hbs, hbd, heq, h => by
    have hb : b = a := by
      cases b with
      | mk bt bd =>
        cases a with
        | mk at_ ad =>
          have e1 : bt.size = at_.size := hbs.trans hinv.size.symm
          have e2 : bd = ad := hbd.trans hinv.defers.symm
          subst e2
          congr 1
          refine Array.ext e1 (fun i h1 h2 => ?_)
          have := heq i (fun j d hd => by
            unfold dstAt at hd
            rw [← hm j] at hd
            simp at hd)
          simpa [Act.eval, h1, h2] using this
    subst hb
    cases rs <;> exact h
  | o :: m, [], k, b, hm, hrs, _, _, _, _ => by
    have h1 := hm 0
    have h2 := hrs 0
    simp only [List.getElem?_cons_zero, Nat.add_zero, List.getElem?_nil] at h1 h2
    have h3 : k < l.length := (List.getElem?_eq_some_iff.1 h1.symm).1
    have h4 := List.getElem?_eq_none_iff.1 h2.symm
    omega
  | o :: m, R :: rs, k, b, hm, hrs, hbs, hbd, heq, h => by
    have h1 : l[k]? = some o := by simpa using (hm 0).symm
    have h2 : Rs[k]? = some R := by simpa using (hrs 0).symm
    have h3 : k < l.length := (List.getElem?_eq_some_iff.1 h1).1
    obtain ⟨ks, _, _, _, hdd⟩ := regionOkN_at hok h1
    have s1 : ∀ j, m[j]? = l[k + 1 + j]? := fun j => by have := hm (j + 1); simpa [Nat.add_assoc, Nat.add_comm 1 j] using this
    have s2 : ∀ j, rs[j]? = Rs[k + 1 + j]? := fun j => by have := hrs (j + 1); simpa [Nat.add_assoc, Nat.add_comm 1 j] using this
    cases hd : o.dst with
    | none =>
      have hdk : dstAt l k = none := by unfold dstAt; simp [h1, hd]
      have h' := h undef (hN k R h2 hdk w)
      rw [hd, put_none] at h'
      refine fin_ofL hok hN hlen hinv hall m rs (k + 1) b s1 s2 hbs hbd (fun t ht => heq t (fun j d hj => ?_)) h'
      cases j with
      | zero => rw [Nat.add_zero, hdk] at hj; cases hj
      | succ j => exact ht j d (by rw [← hj]; congr 1; omega)
    | some d =>
      have hdn := (hdd d hd).1
      have hdk : dstAt l k = some d := by unfold dstAt; simp [h1, hd]
      have hR := hinv.told k d R (hall k h3) hdk h2
      refine fin_ofL hok hN hlen hinv hall m rs (k + 1) (b.put o.dst (a.eval (.tmp d))) s1 s2 ?_ ?_ ?_ (h _ hR)
      · rw [hd]; simpa [Act.put] using hbs
      · rw [hd]; simpa [Act.put] using hbd
      · intro t ht
        rw [hd]
        by_cases htd : d = t
        · subst htd
          exact eval_put_same (by rw [hbs]; exact hdn)
        · rw [eval_put_ne htd]
          refine heq t (fun j d' hj => ?_)
          cases j with
          | zero => rw [Nat.add_zero, hdk] at hj; cases hj; exact htd
          | succ j => exact ht j d' (by rw [← hj]; congr 1; omega)
theorem inv_stepL (hok : regionOkN l kss a0.tmps.size = true) (hst : ∀ R ∈ Rs, Tell.stableG K R) (hinv : InvL G l Rs a0 listed a w) (hdeps : ∀ j ∈ odeps o, listed.getD j false = true) (ho : l[i]? = some o) (hR : Rs[i]? = some R)
    (hk : K w w' ∧ G (listed.setIfInBounds i true) (a.put o.dst v) w') (hv : R v w') : InvL G l Rs a0 (listed.setIfInBounds i true) (a.put o.dst v) w' := by
  obtain ⟨ks, _, _, _, hdd⟩ := regionOkN_at hok ho
  have hget : ∀ j, (listed.setIfInBounds i true).getD j false = true → j = i ∨ listed.getD j false = true := fun j hj => by
    by_cases hij : i = j
    · exact .inl hij.symm
    · rw [getD_set_ne false hij] at hj; exact .inr hj
  have hcl : ClosedL l (listed.setIfInBounds i true) := by
    intro j oj hoj hj k hk'
    rcases hget j hj with h1 | h1
    · subst h1
      rw [ho] at hoj; cases hoj
      exact getD_set_true (hdeps k hk')
    · exact getD_set_true (hinv.closed j oj hoj h1 k hk')
  have hlt : i < listed.size := by rw [hinv.ls]; exact (List.getElem?_eq_some_iff.1 ho).1
  cases hd : o.dst with
  | none =>
    have hdi : dstAt l i = none := by unfold dstAt; simp [ho, hd]
    have hg := hk.2
    rw [hd, put_none] at hg
    rw [put_none]
    refine ⟨hg, hinv.size, hinv.defers, by simpa using hinv.ls, ?_, ?_, hcl⟩
    · intro j dj Rj hj hdj hRj
      rcases hget j hj with h1 | h1
      · subst h1; rw [hdi] at hdj; cases hdj
      · exact hst Rj (List.mem_of_getElem? hRj) _ _ _ hk.1 (hinv.told j dj Rj h1 hdj hRj)
    · intro t ht
      exact hinv.rest t (fun j hj => ht j (getD_set_true hj))
  | some d =>
    have hdn := (hdd d hd).1
    have hdi : dstAt l i = some d := by unfold dstAt; simp [ho, hd]
    have hg := hk.2
    rw [hd] at hg
    refine ⟨hg, by simpa [Act.put] using hinv.size, by simpa [Act.put] using hinv.defers, by simpa using hinv.ls, ?_, ?_, hcl⟩
    · intro j dj Rj hj hdj hRj
      by_cases hji : j = i
      · subst hji
        rw [hdi] at hdj; cases hdj
        rw [hR] at hRj; cases hRj
        rw [eval_put_same (by rw [hinv.size]; exact hdn)]
        exact hv
      · have hl := (hget j hj).resolve_left hji
        have hne : d ≠ dj := fun e => hji (dst_injN hok (e ▸ hdj) hdi)
        rw [eval_put_ne hne]
        exact hst Rj (List.mem_of_getElem? hRj) _ _ _ hk.1 (hinv.told j dj Rj hl hdj hRj)
    · intro t ht
      have hne : d ≠ t := fun e => ht i (by simp [hlt]) (e ▸ hdi)
      rw [eval_put_ne hne]
      exact hinv.rest t (fun j hj => ht j (getD_set_true hj))
theorem ready_facts (hr : i ∈ Region.ready .any l.toArray listed) (ho : l[i]? = some o) : listed.getD i false = false ∧ ∀ j ∈ odeps o, listed.getD j false = true := by
  obtain ⟨h0, o', ho', hall⟩ := mem_ready.1 hr
  have : o' = o := by have := ho'; rw [List.getElem?_toArray, ho] at this; exact (Option.some.inj this).symm
  subst this
  refine ⟨getD_both h0, fun j hj => ?_⟩
  obtain ⟨e, he, hb, rfl⟩ := mem_deps.1 hj
  exact hall e he hb
theorem all_listedL (hok : regionOkN l kss n = true) (hinv : InvL G l Rs a0 listed a w) (hr : Region.ready .any l.toArray listed = []) : ∀ i, i < l.length → listed.getD i false = true := by
  intro i
  induction i using Nat.strongRecOn with
  | _ i ih =>
    intro hi
    cases hc : listed.getD i false with
    | true => rfl
    | false =>
      have ho : l[i]? = some l[i] := List.getElem?_eq_getElem hi
      obtain ⟨_, _, hdeps, _, _⟩ := regionOkN_at hok ho
      have : i ∈ Region.ready .any l.toArray listed := by
        rw [mem_ready]
        refine ⟨?_, l[i], by rw [List.getElem?_toArray]; exact ho, fun e he hb => ?_⟩
        · have hls : i < listed.size := by rw [hinv.ls]; exact hi
          simp [hls] at hc ⊢; exact hc
        · have hm : e.on ∈ odeps l[i] := mem_deps.2 ⟨e, he, hb, rfl⟩
          exact ih e.on (hdeps _ hm) (Nat.lt_trans (hdeps _ hm) hi)
      rw [hr] at this
      cases this
/-- **One look at each operation serves every order.** -/
theorem region_growL {id : Nat} {w : World} (hm : P.follows .mixedOrders = true) (Rs : List Tell) (kss : List (List (Tmp × Option Nat))) (hok : regionOkN l kss a0.tmps.size = true) (hN : ∀ k R, Rs[k]? = some R → dstAt l k = none → ∀ w, R undef w) (hst : ∀ R ∈ Rs, Tell.stableG K R) (hg : G (Array.replicate l.length false) a0 w.drew)
    (hs : StepsL K G P l a0 Rs 0 l kss Rs) (hf : ∀ w', FinR (fun _ a w => (∀ listed, (∀ i, i < l.length → listed.getD i false = true) → G listed a w → Q .normal a w)) l Rs a0 w') : (Code.region id l.toArray true).wp P Q a0 w := by
  refine wp_region_any hm ?_
  obtain ⟨hlen, _, hat⟩ := StepsL.at hs
  have hend : ∀ (listed : Array Bool) (a : Act) (w : World), InvL G l Rs a0 listed a w → Region.ready .any l.toArray listed = [] → Q .normal a w := fun listed a w hinv hr =>
    fin_ofL (Q := fun _ a w => (∀ listed, (∀ i, i < l.length → listed.getD i false = true) → G listed a w → Q .normal a w)) hok hN hlen hinv (all_listedL hok hinv hr) l Rs 0 a0 (by simp) (by simp) rfl rfl (fun t ht => (hinv.rest t (fun i _ hd => ht i t (by rw [Nat.zero_add]; exact hd) rfl)).symm) (hf w) listed (all_listedL hok hinv hr) hinv.g
  have main : ∀ (fuel : Nat) (listed : Array Bool) (a : Act) (w : World), InvL G l Rs a0 listed a w → listed.toList.count false = fuel → wpAny P .any l.toArray Q fuel listed a w := by
    intro fuel
    induction fuel with
    | zero =>
      intro listed a w hinv hc
      have hr : Region.ready .any l.toArray listed = [] := by
        refine List.eq_nil_iff_forall_not_mem.2 (fun j hj => ?_)
        have h0 := (mem_ready.1 hj).1
        have h1 := List.count_eq_zero.1 hc
        rcases Nat.lt_or_ge j listed.size with h' | h'
        · simp [h'] at h0
          exact h1 (by rw [← h0]; simp)
        · simp [Array.getElem?_eq_none h'] at h0
      exact ⟨hr, hend listed a w hinv hr⟩
    | succ fuel ih =>
      intro listed a w hinv hc
      refine ⟨hend listed a w hinv, fun i hi => ?_⟩
      obtain ⟨hun, o, ho', hall⟩ := mem_ready.1 hi
      have ho : l[i]? = some o := by rw [← List.getElem?_toArray]; exact ho'
      have hilt : i < l.length := (List.getElem?_eq_some_iff.1 ho).1
      obtain ⟨ks, hks, _, hlk, _⟩ := regionOkN_at hok ho
      obtain ⟨hnot, hdeps⟩ := ready_facts hi ho
      have hls : i < listed.size := by rw [hinv.ls]; exact hilt
      have hR : Rs[i]? = some Rs[i] := List.getElem?_eq_getElem (by omega)
      have hw := hat i o ks Rs[i] ho hks hR listed a w (by rw [Nat.zero_add]; exact hnot) hdeps hinv.closed (by rw [Nat.zero_add]; exact hls) hinv.g (knows_ofL hinv hnot hdeps hlen ks hlk)
      rw [Nat.zero_add] at hw
      have hcnt : (listed.setIfInBounds i true).toList.count false = fuel := by
        have hg : listed.toList[i]'(by simpa using hls) = false := by simpa [hls] using hun
        rw [Array.toList_setIfInBounds, List.count_set (by simpa using hls), hg, hc]
        simp
      have next : ∀ v w', (K w w' ∧ G (listed.setIfInBounds i true) (a.put o.dst v) w') → Rs[i] v w' → wpAny P .any l.toArray Q fuel (listed.setIfInBounds i true) (a.put o.dst v) w' := fun v w' hk hv =>
        ih _ _ _ (inv_stepL hok hst hinv hdeps ho hR hk hv) hcnt
      unfold wantsG at hw
      unfold wpOp
      simp only [ho']
      split
      · rename_i hwn
        rw [if_pos hwn] at hw
        refine .inl ?_
        unfold Oper.wp
        generalize (execOp a.eval o).run P w = r at *
        cases r with
        | ok x w' =>
          cases x <;> simp only [grownG] at hw <;> simp only [Oper.upon]
          case value v => exact next v w' hw.1 hw.2
          case skip => exact next undef w' hw.1 hw.2
          case enter f args =>
            refine hw.mono ?_
            rintro e w'' ⟨v, rfl, h1, h2⟩
            exact next v w'' h1 h2
        | halt x w' => simp only [grownG] at hw
      · rename_i hwn
        rw [if_neg hwn] at hw
        exact next undef w hw.1 hw.2
  refine main _ _ _ _ ⟨by simpa using hg, rfl, rfl, by simp, fun i d R h => ?_, fun _ _ => rfl, fun i o _ h => ?_⟩ ?_
  · exfalso; revert h; simp only [Array.getD_eq_getD_getElem?, Array.getElem?_replicate]; split <;> simp
  · exfalso; revert h; simp only [Array.getD_eq_getD_getElem?, Array.getElem?_replicate]; split <;> simp
  · simp
end
theorem steps_consL {K : World → World → Prop} {G : Array Bool → Act → World → Prop} {P : Program} {l0 : List Oper} {a0 : Act} {Rs : List Tell} {k : Nat} {o : Oper} {l : List Oper} {ks : List (Tmp × Option Nat)} {kss : List (List (Tmp × Option Nat))} {R : Tell} {rs : List Tell}
    (h1 : ∀ listed a w, listed.getD k false = false → (∀ j ∈ odeps o, listed.getD j false = true) → ClosedL l0 listed → k < listed.size → G listed a w → Knows a0 Rs a w ks → wantsG K (G (listed.setIfInBounds k true)) P l0.toArray o a w R) (h2 : StepsL K G P l0 a0 Rs (k + 1) l kss rs) : StepsL K G P l0 a0 Rs k (o :: l) (ks :: kss) (R :: rs) := ⟨h1, h2⟩
end Go.Proofs.YtillhpgdlmeajaaGreatDoor

/-
  Small words for regions that draw their order and store (region_growL), where every slot holds a value that is known.
-/
namespace Go.Proofs.YtillhpgdlmeajaaGreatDoor
open Go.RowKit
section
variable {w w' : World} {g : Nat} {listed : Array Bool} {a : Act} {l0 : List Oper}
theorem lstM (hcl : ClosedL l0 listed) (i j : Nat) {oi : Oper} (hi : l0[i]? = some oi) (hd : j ∈ odeps oi) (hnot : listed.getD j false = false) : listed.getD i false = false := by
  cases h : listed.getD i false with
  | false => rfl
  | true => rw [hcl i oi hi h j hd] at hnot; cases hnot
theorem wantsG_skipM {K : World → World → Prop} {G : Act → World → Prop} {ops : Array Oper} {o : Oper} {R : Tell} (hg : o.guard = none) (hrun : (execOp a.eval o).run Tryz.prog w = .ok .skip w' ∨ (execOp a.eval o).run Tryz.prog w = .ok (.value undef) w') (h : (K w w' ∧ G (a.put o.dst undef) w') ∧ R undef w') : wantsG K G Tryz.prog ops o a w R := by
  unfold wantsG
  rw [if_pos (by simp [Region.wanted, hg])]
  rcases hrun with e | e <;> rw [e] <;> exact h
theorem wantsG_of1M {K : World → World → Prop} {G : Act → World → Prop} {ops : Array Oper} {o : Oper} {R : Tell} (hK : ∀ w', Kp [] w w' → K w w') (hG : ∀ v w', Kp [] w w' → G (a.put o.dst v) w') (h : wants Tryz.prog ops o a w R) : wantsG K G Tryz.prog ops o a w R := by
  unfold wants at h
  unfold wantsG
  split
  · rename_i hw
    rw [if_pos hw] at h
    generalize (execOp a.eval o).run Tryz.prog w = r at *
    cases r with
    | ok x w' =>
      cases x <;> simp only [grown] at h <;> simp only [grownG]
      case value v => exact ⟨⟨hK _ h.1, hG v w' h.1⟩, h.2⟩
      case skip => exact ⟨⟨hK _ h.1, hG undef w' h.1⟩, h.2⟩
      case enter f args =>
        refine h.mono ?_
        rintro e w'' ⟨v, rfl, h1, h2⟩
        exact ⟨v, rfl, ⟨hK _ h1, hG v w'' h1⟩, h2⟩
    | halt x w' => simp only [grown] at h
  · rename_i hw
    rw [if_neg hw] at h
    exact ⟨⟨hK _ (Kp.refl _ _), hG undef w (Kp.refl _ _)⟩, h⟩
theorem getD_set_neM {i j : Nat} (h : i ≠ j) : (listed.setIfInBounds i true).getD j false = listed.getD j false := by
  simp [h]
end
end Go.Proofs.YtillhpgdlmeajaaGreatDoor

/-
  A signed checkpoint that is told by a call and stored in a new block, in whatever order: what stays.
-/
namespace Go.Proofs.YtillhpgdlmeajaaGreatDoor.umix
open Go.RowKit
open Go.Proofs
open Go.Proofs.YtillhpgdlmeajaaGreatDoor
set_option linter.unusedVariables false
/-- a block that holds a signed checkpoint. -/
def IsSg (w : World) (g : Nat) : Prop := ∃ (x y : Int) (a1 : Option Addr) (n1 c1 : Nat) (a2 : Option Addr) (n2 c2 : Nat) (a3 : Option Addr) (n3 c3 : Nat), w.heap[g]? = some (.cells #[.int .i64 x, .slice a1 n1 c1, .int .i64 y, .slice a2 n2 c2, .slice a3 n3 c3] 72 (0, 0))
def Big (s : Sg) : Prop := 3 ≤ s.ps.length ∧ 3 ≤ s.qs.length
theorem off5 {b g : Nat} {w w' : World} {v : Value} {s : Sg} (h : SgA b w v s) (hc : Big s) (hb : b ≤ g) (hg : IsSg w g) (k : Kp [g] w w') : SgA b w' v s := fun S w2 hS k2 => by
  obtain ⟨x, y, a1, n1, c1, a2, n2, c2, a3, n3, c3, hg⟩ := hg
  have hgS : g ∉ S := fun hm => by have := hS g hm; omega
  have hgl : g < w.heap.size := lt_of_block hg
  have hg2 : g < w2.heap.size := Nat.lt_of_lt_of_le hgl (Nat.le_trans k.size k2.size)
  obtain ⟨w3, hw3⟩ : ∃ w3 : World, w3 = { w2 with heap := w2.heap.setIfInBounds g (.cells #[.int .i64 x, .slice a1 n1 c1, .int .i64 y, .slice a2 n2 c2, .slice a3 n3 c3] 72 (0, 0)) } := ⟨_, rfl⟩
  have hg3 : w3.heap[g]? = some (.cells #[.int .i64 x, .slice a1 n1 c1, .int .i64 y, .slice a2 n2 c2, .slice a3 n3 c3] 72 (0, 0)) := by rw [hw3]; simp [hg2]
  have ho : ∀ i, i ≠ g → w3.heap[i]? = w2.heap[i]? := fun i hi => by
    rw [hw3]
    exact Array.getElem?_setIfInBounds_ne (fun e => hi e.symm)
  have hsz : w3.heap.size = w2.heap.size := by rw [hw3]; simp
  have K3 : Kp S w w3 := ⟨by rw [hw3]; exact k2.os.trans k.os, by rw [hw3]; exact k2.tape.trans k.tape, by rw [hw3]; exact k2.output.trans k.output, by rw [hsz]; exact Nat.le_trans k.size k2.size, fun i hi hs => by
    by_cases e : i = g
    · subst e; rw [hg3, hg]
    · rw [ho i e]
      exact (k2.block i (Nat.lt_of_lt_of_le hi k.size) hs).trans (k.block i hi (by simpa using e))⟩
  have K32 : Kp [g] w3 w2 := ⟨by rw [hw3], by rw [hw3], by rw [hw3], by rw [hsz]; exact Nat.le_refl _, fun i hi hs => (ho i (by simpa using hs)).symm⟩
  exact sg_off5 hg3 K32 (h S w3 hS K3) hc.1 hc.2
def AnyT : Tell := fun _ _ => True
def SgAT (b : Nat) (s : Sg) : Tell := fun v w => SgA b w v s
/-- a pair: a signed checkpoint, and why not. -/
def PrT (b : Nat) (s : Sg) (e : Int) : Tell := fun v w => ∃ x, v = .tuple #[x, .int .i64 e] ∧ SgA b w x s
theorem grown_x0 {o : Oper} {a : Act} {w : World} (x : Operand) (ho : o.op = .extract x 0) (b : Nat) (s : Sg) (e : Int) (h : PrT b s e (a.eval x) w) : grown Tryz.prog w (SgAT b s) ((execOp a.eval o).run Tryz.prog w) := by
  obtain ⟨y, h1, h2⟩ := h
  refine grown_run (v := y) ?_ (Kp.refl _ _) h2
  obtain ⟨ρ, hρ, _⟩ := eval_is a
  rw [hρ] at h1 ⊢
  unfold execOp
  simp only [ho]
  simp [go_sem, h1]
theorem grown_x1 {o : Oper} {a : Act} {w : World} (x : Operand) (ho : o.op = .extract x 1) (b : Nat) (s : Sg) (e : Int) (h : PrT b s e (a.eval x) w) : grown Tryz.prog w (Is (.int .i64 e)) ((execOp a.eval o).run Tryz.prog w) := by
  obtain ⟨y, h1, h2⟩ := h
  refine grown_run (v := .int .i64 e) ?_ (Kp.refl _ _) rfl
  obtain ⟨ρ, hρ, _⟩ := eval_is a
  rw [hρ] at h1 ⊢
  unfold execOp
  simp only [ho]
  simp [go_sem, h1]
theorem grown_bcks {o : Oper} {a : Act} {w : World} {n : Int} {r : List Int} (x0 x1 : Operand) (ho : o.op = .build 68 #[(0, x0), (1, x1)]) (h0 : a.eval x0 = .int .i64 n) (h1 : SlT r (a.eval x1) w) (hB : Bs r) :
    grown Tryz.prog w (CkT n r) ((execOp a.eval o).run Tryz.prog w) := by
  have h2 : Sl w (a.eval x1) r := h1
  obtain ⟨ar, cr, e, _⟩ := id h2
  rw [e] at h2
  refine grown_run (v := .agg #[.int .i64 n, .slice ar r.length cr]) ?_ (Kp.refl _ _) ⟨ar, r.length, cr, rfl, h2, hB⟩
  obtain ⟨ρ, hρ, _⟩ := eval_is a
  rw [hρ] at e h0 ⊢
  unfold execOp
  simp only [ho]
  simp [go_sem, e, h0]
/-- nothing old was changed, but for one signed checkpoint from B on. -/
def KN (B : Nat) (w w' : World) : Prop := Kp [] w w' ∨ ∃ g, B ≤ g ∧ IsSg w g ∧ IsSg w' g ∧ Kp [g] w w'
def NewX (B : Nat) : Tell := fun v w => ∃ g, v = .pointer (some ⟨g, 0, none⟩) ∧ IsSg w g ∧ B ≤ g
theorem stableN_any {B : Nat} : Tell.stableG (KN B) AnyT := fun _ _ _ _ h => h
theorem stableN_is {B : Nat} (c : Value) : Tell.stableG (KN B) (Is c) := fun _ _ _ _ h => h
theorem stableN_sl {B : Nat} (bs : List Int) : Tell.stableG (KN B) (SlT bs) := fun v w w' k h => by
  have h0 : Sl w v bs := h
  rcases k with k | ⟨g, _, hs, _, k⟩
  · exact h0.kept k (by simp)
  · obtain ⟨ao, c, rfl, -⟩ := id h0
    obtain ⟨x, y, a1, n1, c1, a2, n2, c2, a3, n3, c3, hg⟩ := hs
    exact Sl.offBy h0 (noBy_sgd hg) k
theorem stableN_ck {B : Nat} (n : Int) (r : List Int) : Tell.stableG (KN B) (CkT n r) := fun v w w' k h => by
  obtain ⟨a, m, c, e, h1, h2⟩ := h
  exact ⟨a, m, c, e, stableN_sl r _ _ _ k h1, h2⟩
theorem keepN {B b : Nat} {w w' : World} {v : Value} {s : Sg} (hs : Big s) (hb : b ≤ B) (k : KN B w w') (h : SgA b w v s) : SgA b w' v s := by
  rcases k with k | ⟨g, hB, hg, _, k⟩
  · exact h.kept (S := []) (by simp) k
  · exact off5 h hs (by omega) hg k
theorem stableN_sg {B b : Nat} (s : Sg) (hs : Big s) (hb : b ≤ B) : Tell.stableG (KN B) (SgAT b s) := fun _ _ _ k h => keepN hs hb k h
theorem stableN_prt {B b : Nat} (s : Sg) (e : Int) (hs : Big s) (hb : b ≤ B) : Tell.stableG (KN B) (PrT b s e) := fun _ _ _ k ⟨x, h1, h2⟩ => ⟨x, h1, keepN hs hb k h2⟩
theorem stableN_new {B : Nat} (B' : Nat) : Tell.stableG (KN B) (NewX B') := fun v w w' k ⟨g, e, h1, h2⟩ => by
  rcases k with k | ⟨g', _, hg, hg', k⟩
  · obtain ⟨x, y, a1, n1, c1, a2, n2, c2, a3, n3, c3, h⟩ := h1
    exact ⟨g, e, ⟨x, y, a1, n1, c1, a2, n2, c2, a3, n3, c3, k.heap h (by simp)⟩, h2⟩
  · by_cases hh : g = g'
    · rw [hh] at e h2; exact ⟨g', e, hg', h2⟩
    · obtain ⟨x, y, a1, n1, c1, a2, n2, c2, a3, n3, c3, h⟩ := h1
      exact ⟨g, e, ⟨x, y, a1, n1, c1, a2, n2, c2, a3, n3, c3, k.heap h (by simpa using hh)⟩, h2⟩
theorem grown_newx {o : Oper} {a : Act} {w : World} (s0 : Nat) (hs : s0 ≤ w.heap.size) (ho : o.op = .alloc 72) : grown Tryz.prog w (NewX s0) ((execOp a.eval o).run Tryz.prog w) := by
  refine grown_run (v := .pointer (some ⟨w.heap.size, 0, none⟩)) (w' := w.alloc (.cells #[.int .i64 0, .slice none 0 0, .int .i64 0, .slice none 0 0, .slice none 0 0] 72)) ?_ ((Kp.refl [] w).alloc _) ⟨_, rfl, ⟨0, 0, none, 0, 0, none, 0, 0, none, 0, 0, heap_alloc_new w _⟩, hs⟩
  unfold execOp
  simp only [ho]
  simp [go_sem]
/-- what was stored so far. -/
def GN (w0 : World) (k tp tv : Nat) (listed : Array Bool) (a : Act) (w : World) : Prop :=
  Kp [] w0 w ∧ (listed.getD k false = true → ∃ g cs, a.eval (.tmp tp) = .pointer (some ⟨g, 0, none⟩) ∧ a.eval (.tmp tv) = .agg cs ∧ w.heap[g]? = some (.cells cs 72 (0, 0)))
section
variable {w0 w w' : World} {k tp tv : Nat} {listed : Array Bool} {a : Act}
theorem GN.free (h : GN w0 k tp tv listed a w) (k' : Nat) (hk : k' ≠ k) (d : Tmp) (hd : d = tp ∨ d = tv → listed.getD k false = false) (v : Value) (K : Kp [] w w') : GN w0 k tp tv (listed.setIfInBounds k' true) (a.put (some d) v) w' := by
  refine ⟨h.1.trans K, fun hl => ?_⟩
  rw [getD_set_neM hk] at hl
  obtain ⟨g, cs, e1, e2, hg⟩ := h.2 hl
  have h1 : d ≠ tp := fun e => by rw [hd (.inl e)] at hl; cases hl
  have h2 : d ≠ tv := fun e => by rw [hd (.inr e)] at hl; cases hl
  exact ⟨g, cs, by rw [eval_put_ne h1]; exact e1, by rw [eval_put_ne h2]; exact e2, K.heap hg (by simp)⟩
theorem GN.st {ops : Array Oper} {o : Oper} {b : Nat} {s : Sg} (h : GN w0 k tp tv listed a w) (hsz : k < listed.size) (hg : o.guard = none) (ho : o.op = .store 72 (.tmp tp) (.tmp tv)) (hd : o.dst = none) (hp : NewX w0.heap.size (a.eval (.tmp tp)) w) (hu : SgAT b s (a.eval (.tmp tv)) w) : wantsG (KN w0.heap.size) (GN w0 k tp tv (listed.setIfInBounds k true)) Tryz.prog ops o a w AnyT := by
  obtain ⟨g, e1, hs, hb⟩ := hp
  have hu' : SgV w (a.eval (.tmp tv)) s := SgA.v hu
  obtain ⟨ar, mr, cr, ap, np, cp, aq, nq, cq, e2, -, -⟩ := hu'.shape
  obtain ⟨x, y, a1, n1, c1, a2, n2, c2, a3, n3, c3, hh⟩ := id hs
  have K := kp_fcells w g [.int .i64 s.n, .slice ar mr cr, .int .i64 s.i, .slice ap np cp, .slice aq nq cq] 0 w (Kp.refl _ _)
  have G' := heap_fcells g _ [.int .i64 s.n, .slice ar mr cr, .int .i64 s.i, .slice ap np cp, .slice aq nq cq] 0 w _ hh
  have hrun := run_storeAt_mid (P := Tryz.prog) w g 0 72 #[.int .i64 s.n, .slice ar mr cr, .int .i64 s.i, .slice ap np cp, .slice aq nq cq] (fun j hj => by
    rw [Nat.zero_add, cell_of_row w g j _ _ _ hh]
    refine ⟨?_, frozen_of_row w g j _ _ hh⟩
    have hj5 : j < 5 := by simpa using hj
    rcases (by omega : j = 0 ∨ j = 1 ∨ j = 2 ∨ j = 3 ∨ j = 4) with rfl | rfl | rfl | rfl | rfl <;> rfl) Tryz.sgdSize (by simp [Value.oneCell'])
  refine wantsG_skipM (w' := w.setCells g 0 [.int .i64 s.n, .slice ar mr cr, .int .i64 s.i, .slice ap np cp, .slice aq nq cq]) hg ?_ ⟨⟨.inr ⟨g, hb, hs, ⟨s.n, s.i, ar, mr, cr, ap, np, cp, aq, nq, cq, G'⟩, K⟩, h.1.then K (fun i hi => .inr (by simp at hi; omega)), fun _ => ⟨g, _, by rw [hd]; exact e1, by rw [hd]; exact e2, G'⟩⟩, trivial⟩
  unfold execOp
  simp only [ho, e1, e2, Sem.run_bind, hrun, Result.andThen_ok, Sem.run_pure]
  exact .inl trivial
end
end Go.Proofs.YtillhpgdlmeajaaGreatDoor.umix

/-
  The contracts of package ledger: Find, signNow, Publish, Last.
-/
namespace Go.Proofs.YtillhpgdlmeajaaGreatDoor
open Go.RowKit
open Go.Proofs
open Go.Proofs.YtillhpgdlmeajaaGreatDoor.umix
set_option linter.unusedVariables false
theorem Stp.aside {F F' : Nat → Prop} {w w1 w2 : World} {T : List Nat} (h : Stp F w w1 F') (k : Kp T w1 w2) (hT : ∀ i ∈ T, w.heap.size ≤ i) : Stp F w w2 F' := by
  obtain ⟨⟨U, hU, kU⟩, h2⟩ := h
  exact ⟨⟨U, hU, kU.then k (fun i hi => .inr (hT i hi))⟩, fun i hi => (h2 i hi).imp id (fun h => ⟨h.1, Nat.lt_of_lt_of_le h.2 k.size⟩)⟩
section
variable {w0 w : World} {l pd pk : Nat} {S : LS} {f : Fps}
theorem rtU_len (x : List (List Int)) : (rtU x).length = 32 := by
  unfold rtU
  exact trootP_all (Q := fun r => r.length = 32) (fun b => sha_len b) _ (fun y hy => by obtain ⟨z, _, rfl⟩ := List.mem_map.1 hy; exact sha_len _)
theorem rtU_bs (x : List (List Int)) : Bs (rtU x) := by
  unfold rtU
  exact trootP_all (Q := Bs) (fun b => sha_bs b) _ (fun y hy => by obtain ⟨z, _, rfl⟩ := List.mem_map.1 hy; exact sha_bs _)
theorem sgU_small (seed : List Int) (x : List (List Int)) (a : Nat × Nat) (h : a.2 < 16) : (sgU seed x a).Small := by
  have h1 := (rgtP_iff _ _ _).1 (rgtP_sgn seed a.2 h (digP (bodC (a.1 : Int) (rtU (x.take a.1)))))
  refine ⟨?_, ?_, ?_, fun y hy => ?_, fun y hy => ?_⟩
  · show (rtU _).length ≤ 1000; rw [rtU_len]; omega
  · show (sgnP _ _ _).length ≤ 1000; rw [h1.2.1.1]; omega
  · show (pthP _ _ _).length ≤ 1000; rw [h1.2.2.1]; omega
  · have := h1.2.1.2 y hy; omega
  · have := h1.2.2.2 y hy; omega
set_option maxRecDepth 100000 in
set_option maxHeartbeats 8000000 in
theorem usign_any (h : Lg w0 w l pd pk S f) (hG : Gl w0) (hn : S.n < 16) (hmb : S.mb ≤ 1000) (er : Bool) (dk' : Dk) (he : S.dk.add (recP [(S.n : Int)]) = (er, dk')) (en : Int) (hen : en = if er then 0 else 13) :
    Calls Tryz.prog 77 #[.pointer (some ⟨l, 0, none⟩)] w fun e w' => e = .returned (.int .i64 en) ∧ ∃ f', Lg w0 w' l pd pk { S with dk := dk', mb := S.mb + 1, n := if er then S.n + 1 else S.n, la := if er then some (S.its.length, S.n) else S.la } f' ∧ LSt w f w' f' := by
  obtain ⟨j, s, q, vs, pv, hx⟩ := h
  have hc := hx.at_.c2
  have HT := hide (bf_take hx.bf hn hmb er he _ en rfl hen _ rfl)
  obtain ⟨ky, hky⟩ : ∃ k, k = S.n := ⟨_, rfl⟩
  obtain ⟨il, hil⟩ : ∃ k, k = S.its.length := ⟨_, rfl⟩
  have HX := hide hx
  have HG := hide hG
  have HN := hide hn
  have HEn := hide hen
  have HKY := hide hky
  have HIL := hide hil
  rw [← hky] at HT
  clear hx hG hn hmb he hen hky hil
  go_enter Tryz.func77, Tryz.ntmps77
  go_wp2_with fail
  refine HT.out.mono ?_
  rintro ee w2 ⟨rfl, F6, B2, T2⟩
  have hn' : (if er then ky + 1 else ky) ≤ 16 := by have := HN.out; have := HKY.out; split <;> omega
  have hx2 := HX.out.stepB T2 B2 hn'
  have HT2 : Hid (Stp f.tot w w2 (f.upd 6 F6).tot) := T2.one
  have HX2 := hide hx2
  clear HT B2 T2 hx2 HX hc hn'
  cases er
  · obtain rfl : en = 13 := by rw [HEn.out]; rfl
    have e1 : (if false = true then ((ky : Nat) : Int) else 0) = 0 := by simp
    rw [e1]
    go_wp2_with fail
    go_ret
    refine ⟨rfl, f.upd 6 F6, ⟨j, s, q, vs, pv, ?_⟩, HT2.out⟩
    have := HX2.out
    simp only [Bool.false_eq_true, if_false] at this ⊢
    rw [← HKY.out]; exact this
  · obtain rfl : en = 0 := by rw [HEn.out]; rfl
    have e1 : (if true = true then ((ky : Nat) : Int) else 0) = ky := by simp
    rw [e1]
    have hx2 := HX2.out
    simp only [if_true] at hx2
    have hsd := hx2.sd
    obtain ⟨av, cv, hvs, -⟩ := id hsd
    obtain ⟨nv, hnv⟩ : ∃ n, n = S.seed.length := ⟨_, rfl⟩
    simp only at hvs hsd
    rw [← hnv] at hvs
    subst hvs
    obtain ⟨r, hr⟩ : ∃ r, r = rtU S.its := ⟨_, rfl⟩
    have HXX := hide hx2
    have HD : Hid (∀ w', Kp [] w2.drew w' → Kp [] w2 w') := fun w' k' => (kp_drew w2).trans k'
    have HAt : Hid (∀ w', Kp [] w2.drew w' → Fv 99 w' l (.func (.func 44) #[.pointer (some ⟨j, 0, none⟩)] #[]) (.pointer (some ⟨s, 0, none⟩)) (.pointer (some ⟨q, 0, none⟩)) (.slice av nv cv) pv) := fun w' k => hx2.at_.kept (unhide HD w' k) (by simp)
    have HSd : Hid (∀ w', Kp [] w2.drew w' → Sl w' (.slice av nv cv) S.seed) := fun w' k => hsd.kept (unhide HD w' k) (by simp)
    have HLg : Hid (∀ w', Kp [] w2.drew w' → Lg w0 w' l pd pk { S with dk := dk', mb := S.mb + 1, n := ky + 1 } (f.upd 6 F6)) := fun w' k => ⟨j, s, q, _, pv, hx2.on (unhide HD w' k)⟩
    have HGw : Hid (∀ w', Kp [] w2.drew w' → Gl w') := fun w' k => HG.out.kept (hx2.ok.kp.trans (unhide HD w' k)) (by simp)
    have HSb : Hid (Bs S.seed) := hx2.sb
    have HSl : Hid (S.seed.length = 32) := hx2.sl
    have HKy : Hid (ky < 16) := hide (by rw [HKY.out]; exact HN.out)
    have HIl : Hid ((il : Int) = (S.its.length : Int)) := hide (by rw [HIL.out])
    have HRr := hide hr
    have HRb : Hid (Bs r) := hide (by rw [hr]; exact rtU_bs _)
    have HRg : Hid (rgtC (il : Int) r = true) := hide (by
      rw [rgtC_iff]
      have := hx2.few
      simp only at this
      have := HIL.out
      exact ⟨⟨by omega, by omega⟩, by rw [hr, rtU_len]⟩)
    obtain ⟨SG, hSG⟩ : ∃ x, x = sgU S.seed S.its (il, ky) := ⟨_, rfl⟩
    have HSGe : Hid (sgnC S.seed ky (il : Int) r = SG) := hide (by rw [hSG, hr]; unfold sgU; rw [HIL.out, List.take_length])
    have HBig : Hid (Big SG) := hide (by
      rw [hSG]
      have h1 := (rgtP_iff _ _ _).1 (rgtP_sgn S.seed ky (unhide HKy) (digP (bodC (il : Int) (rtU (S.its.take il)))))
      exact ⟨by show 3 ≤ (sgnP _ _ _).length; rw [h1.2.1.1]; omega, by show 3 ≤ (pthP _ _ _).length; rw [h1.2.2.1]; omega⟩)
    have HSGd := hide hSG
    clear hx2 hsd hnv hr hSG HX2
    go_wp2_with fail
    refine region_growL (K := KN w2.drew.heap.size) (G := GN w2.drew 15 5 29) Tryz.mixed [Is (.pointer (some ⟨l, 0, none⟩)), Is (.pointer (some ⟨l, 0, none⟩)), Is (.pointer (some ⟨l, 3, none⟩)), Is (.slice av nv cv), Is (.int .i64 (ky : Int)), Is (.pointer (some ⟨l, 0, none⟩)), Is (.int .i64 (il : Int)), Is (.pointer (some ⟨l, 0, none⟩)), SlT (r), CkT (il : Int) r, PrT w2.drew.heap.size SG 0, PrT w2.drew.heap.size SG 0, SgAT w2.drew.heap.size SG, Is (.int .i64 0), NewX w2.drew.heap.size, AnyT, Is (.int .i64 0)] [[(0, none)], [(18, some 0)], [(19, some 1)], [(20, some 2)], [(3, none)], [(0, none)], [(23, some 5)], [(0, none)], [(25, some 7)], [(24, some 6), (26, some 8)], [(21, some 3), (22, some 4), (27, some 9)], [(28, some 10)], [(17, some 11)], [(17, some 11)], [], [(5, some 14), (29, some 12)], [(30, some 13)]] (by kernel_rfl) ?_ ?_ ?_ ?_ ?_
    · intro k R hR hd w'
      have hk : k < 17 := by have := (List.getElem?_eq_some_iff.1 hR).1; simpa using this
      rcases (by omega : k = 0 ∨ k = 1 ∨ k = 2 ∨ k = 3 ∨ k = 4 ∨ k = 5 ∨ k = 6 ∨ k = 7 ∨ k = 8 ∨ k = 9 ∨ k = 10 ∨ k = 11 ∨ k = 12 ∨ k = 13 ∨ k = 14 ∨ k = 15 ∨ k = 16) with rfl | rfl | rfl | rfl | rfl | rfl | rfl | rfl | rfl | rfl | rfl | rfl | rfl | rfl | rfl | rfl | rfl <;> first | (cases hR; exact trivial) | cases hd
    · simp only [List.mem_cons, List.not_mem_nil, or_false]
      intro R hR
      rcases hR with rfl | rfl | rfl | rfl | rfl | rfl | rfl | rfl | rfl | rfl | rfl | rfl | rfl | rfl | rfl | rfl | rfl <;> first | exact stableN_is _ | exact stableN_sl _ | exact stableN_any | exact stableN_new _ | exact stableN_ck _ _ | exact stableN_sg _ (unhide HBig) (Nat.le_refl _) | exact stableN_prt _ _ (unhide HBig) (Nat.le_refl _)
    · exact ⟨Kp.refl _ _, fun h => by simp at h⟩
    · refine steps_consL (fun listed a w hnot hdep hcl hsz hg hn => ?_) ?_
      · have h0 : a.eval (.tmp 0) = .pointer (some ⟨l, 0, none⟩) := hn.1
        clear hn
        have hk := hg.1
        refine wantsG_of1M (fun _ k => .inl k) (fun v w' k => hg.free 0 (by decide) 18 (fun h => absurd h (by decide)) v k) ?_
        refine wants_plain rfl ?_
        exact grown_move (.tmp 0) rfl h0
      refine steps_consL (fun listed a w hnot hdep hcl hsz hg hn => ?_) ?_
      · have h18 : a.eval (.tmp 18) = .pointer (some ⟨l, 0, none⟩) := hn.1
        clear hn
        have hk := hg.1
        refine wantsG_of1M (fun _ k => .inl k) (fun v w' k => hg.free 1 (by decide) 19 (fun h => absurd h (by decide)) v k) ?_
        refine wants_plain rfl ?_
        refine grown_run (v := .pointer (some ⟨l, 0, none⟩)) ?_ (Kp.refl _ _) rfl
        obtain ⟨ρ, hρ, hc, hf, hg⟩ := eval_is a
        rw [hρ] at h18 ⊢
        simp [go_sem, h18]
      refine steps_consL (fun listed a w hnot hdep hcl hsz hg hn => ?_) ?_
      · have h19 : a.eval (.tmp 19) = .pointer (some ⟨l, 0, none⟩) := hn.1
        clear hn
        have hk := hg.1
        refine wantsG_of1M (fun _ k => .inl k) (fun v w' k => hg.free 2 (by decide) 20 (fun h => absurd h (by decide)) v k) ?_
        refine wants_plain rfl ?_
        refine grown_run (v := .pointer (some ⟨l, 3, none⟩)) ?_ (Kp.refl _ _) rfl
        obtain ⟨ρ, hρ, hc, hf, hg⟩ := eval_is a
        rw [hρ] at h19 ⊢
        simp [go_sem, h19]
      refine steps_consL (fun listed a w hnot hdep hcl hsz hg hn => ?_) ?_
      · have h20 : a.eval (.tmp 20) = .pointer (some ⟨l, 3, none⟩) := hn.1
        clear hn
        have hk := hg.1
        refine wantsG_of1M (fun _ k => .inl k) (fun v w' k => hg.free 3 (by decide) 21 (fun h => absurd h (by decide)) v k) ?_
        refine wants_plain rfl ?_
        refine grown_run (v := .slice av nv cv) ?_ (Kp.refl _ _) rfl
        have hcell : w.cell? ⟨l, 3, none⟩ = some (.slice av nv cv) := by rw [cell_of_row w l 3 _ _ _ (HAt.out w hk)]; rfl
        obtain ⟨ρ, hρ, hc, hf, hg⟩ := eval_is a
        rw [hρ] at h20 ⊢
        simp [go_sem, h20, hcell]
      refine steps_consL (fun listed a w hnot hdep hcl hsz hg hn => ?_) ?_
      · have h3 : a.eval (.tmp 3) = .int .i64 (ky : Int) := hn.1
        clear hn
        have hk := hg.1
        refine wantsG_of1M (fun _ k => .inl k) (fun v w' k => hg.free 4 (by decide) 22 (fun h => absurd h (by decide)) v k) ?_
        refine wants_plain rfl ?_
        exact grown_move (.tmp 3) rfl h3
      refine steps_consL (fun listed a w hnot hdep hcl hsz hg hn => ?_) ?_
      · have h0 : a.eval (.tmp 0) = .pointer (some ⟨l, 0, none⟩) := hn.1
        clear hn
        have hk := hg.1
        refine wantsG_of1M (fun _ k => .inl k) (fun v w' k => hg.free 5 (by decide) 23 (fun h => absurd h (by decide)) v k) ?_
        refine wants_plain rfl ?_
        exact grown_move (.tmp 0) rfl h0
      refine steps_consL (fun listed a w hnot hdep hcl hsz hg hn => ?_) ?_
      · have h23 : a.eval (.tmp 23) = .pointer (some ⟨l, 0, none⟩) := hn.1
        clear hn
        have hk := hg.1
        refine wantsG_of1M (fun _ k => .inl k) (fun v w' k => hg.free 6 (by decide) 24 (fun h => absurd h (by decide)) v k) ?_
        refine wants_plain rfl ?_
        refine grown_call (f := 16) rfl Tryz.func16 (by kernel_rfl) (by kernel_rfl) ?_
        simp only [List.map_toArray, List.map_cons, List.map_nil, h23]
        refine (usize_any (unhide HLg w hk) (il : Int) (unhide HIl)).mono ?_
        rintro e w' ⟨rfl, rfl⟩
        exact ⟨_, rfl, Kp.refl _ _, rfl⟩
      refine steps_consL (fun listed a w hnot hdep hcl hsz hg hn => ?_) ?_
      · have h0 : a.eval (.tmp 0) = .pointer (some ⟨l, 0, none⟩) := hn.1
        clear hn
        have hk := hg.1
        refine wantsG_of1M (fun _ k => .inl k) (fun v w' k => hg.free 7 (by decide) 25 (fun h => absurd h (by decide)) v k) ?_
        refine wants_plain rfl ?_
        exact grown_move (.tmp 0) rfl h0
      refine steps_consL (fun listed a w hnot hdep hcl hsz hg hn => ?_) ?_
      · have h25 : a.eval (.tmp 25) = .pointer (some ⟨l, 0, none⟩) := hn.1
        clear hn
        have hk := hg.1
        refine wantsG_of1M (fun _ k => .inl k) (fun v w' k => hg.free 8 (by decide) 26 (fun h => absurd h (by decide)) v k) ?_
        refine wants_plain rfl ?_
        refine grown_call (f := 23) rfl Tryz.func23 (by kernel_rfl) (by kernel_rfl) ?_
        simp only [List.map_toArray, List.map_cons, List.map_nil, h25]
        refine (uroot_any (unhide HLg w hk) r (unhide HRr) (unhide HGw w hk)).mono ?_
        rintro e w' ⟨ao, m, c, rfl, R, K⟩
        exact ⟨_, rfl, K, R.sl⟩
      refine steps_consL (fun listed a w hnot hdep hcl hsz hg hn => ?_) ?_
      · have h24 : a.eval (.tmp 24) = .int .i64 (il : Int) := hn.1
        have h26 : Sl w (a.eval (.tmp 26)) (r) := hn.2.1
        clear hn
        have hk := hg.1
        refine wantsG_of1M (fun _ k => .inl k) (fun v w' k => hg.free 9 (by decide) 27 (fun h => absurd h (by decide)) v k) ?_
        refine wants_plain rfl ?_
        exact grown_bcks (.tmp 24) (.tmp 26) rfl h24 h26 (unhide HRb)
      refine steps_consL (fun listed a w hnot hdep hcl hsz hg hn => ?_) ?_
      · have h21 : a.eval (.tmp 21) = .slice av nv cv := hn.1
        have h22 : a.eval (.tmp 22) = .int .i64 (ky : Int) := hn.2.1
        have h27 : (CkT (il : Int) r) (a.eval (.tmp 27)) w := hn.2.2.1
        clear hn
        have hk := hg.1
        refine wantsG_of1M (fun _ k => .inl k) (fun v w' k => hg.free 10 (by decide) 28 (fun h => absurd h (by decide)) v k) ?_
        refine wants_plain rfl ?_
        refine grown_call (f := 116) rfl Tryz.func116 (by kernel_rfl) (by kernel_rfl) ?_
        simp only [List.map_toArray, List.map_cons, List.map_nil, h21, h22]
        refine (cksign_okA (.slice av nv cv) S.seed ky _ (il : Int) r w (unhide HSd w hk) (unhide HSb) (unhide HSl) (unhide HKy) h27 (unhide HRg) (unhide HGw w hk)).mono ?_
        rintro e w' ⟨v, rfl, V, K⟩
        rw [unhide HSGe] at V
        exact ⟨_, rfl, K, ⟨_, rfl, V.low hk.size⟩⟩
      refine steps_consL (fun listed a w hnot hdep hcl hsz hg hn => ?_) ?_
      · have h28 : (PrT w2.drew.heap.size SG 0) (a.eval (.tmp 28)) w := hn.1
        clear hn
        have hk := hg.1
        refine wantsG_of1M (fun _ k => .inl k) (fun v w' k => hg.free 11 (by decide) 17 (fun h => absurd h (by decide)) v k) ?_
        refine wants_plain rfl ?_
        exact grown_move (.tmp 28) rfl h28
      refine steps_consL (fun listed a w hnot hdep hcl hsz hg hn => ?_) ?_
      · have h17 : (PrT w2.drew.heap.size SG 0) (a.eval (.tmp 17)) w := hn.1
        clear hn
        have hk := hg.1
        refine wantsG_of1M (fun _ k => .inl k) (fun v w' k => hg.free 12 (by decide) 29 (fun _ => lstM hcl 15 12 rfl (by decide) hnot) v k) ?_
        refine wants_plain rfl ?_
        exact grown_x0 (.tmp 17) rfl _ _ _ h17
      refine steps_consL (fun listed a w hnot hdep hcl hsz hg hn => ?_) ?_
      · have h17 : (PrT w2.drew.heap.size SG 0) (a.eval (.tmp 17)) w := hn.1
        clear hn
        have hk := hg.1
        refine wantsG_of1M (fun _ k => .inl k) (fun v w' k => hg.free 13 (by decide) 30 (fun h => absurd h (by decide)) v k) ?_
        refine wants_plain rfl ?_
        exact grown_x1 (.tmp 17) rfl _ _ _ h17
      refine steps_consL (fun listed a w hnot hdep hcl hsz hg hn => ?_) ?_
      · clear hn
        have hk := hg.1
        refine wantsG_of1M (fun _ k => .inl k) (fun v w' k => hg.free 14 (by decide) 5 (fun _ => lstM hcl 15 14 rfl (by decide) hnot) v k) ?_
        refine wants_plain rfl ?_
        exact grown_newx _ hk.size rfl
      refine steps_consL (fun listed a w hnot hdep hcl hsz hg hn => ?_) ?_
      · have h5 : (NewX w2.drew.heap.size) (a.eval (.tmp 5)) w := hn.1
        have h29 : (SgAT w2.drew.heap.size SG) (a.eval (.tmp 29)) w := hn.2.1
        clear hn
        exact hg.st hsz rfl rfl rfl h5 h29
      refine steps_consL (fun listed a w hnot hdep hcl hsz hg hn => ?_) ?_
      · have h30 : a.eval (.tmp 30) = .int .i64 0 := hn.1
        clear hn
        have hk := hg.1
        refine wantsG_of1M (fun _ k => .inl k) (fun v w' k => hg.free 16 (by decide) 4 (fun h => absurd h (by decide)) v k) ?_
        refine wants_plain rfl ?_
        exact grown_assign (.tmp 30) rfl h30
      exact trivial
    intro W1
    rintro _ rfl
    rintro _ rfl
    rintro _ rfl
    rintro _ rfl
    rintro _ rfl
    rintro _ rfl
    rintro _ rfl
    rintro _ rfl
    intro v26 h26
    intro v27 h27
    intro v28 h28
    intro v17 h17
    intro v29 h29
    rintro _ rfl
    intro v5 h5
    intro _ _
    rintro _ rfl
    refine fin_nil ?_
    intro listed hall hgg
    obtain ⟨hkW1, hst⟩ := hgg
    obtain ⟨gst, cst, est, evt, Gst⟩ := hst (hall 15 (by decide))
    simp only [Act.put, List.set_cons_zero, List.set_cons_succ, List.setIfInBounds_toArray] at est evt ⊢
    obtain ⟨g15, rfl, -, hbn⟩ := h5
    have hA29 : SgA w2.drew.heap.size W1 v29 SG := h29
    obtain ⟨a2, m2, c2, ap2, np2, cp2, aq2, nq2, cq2, rfl, -, -⟩ := hA29.v.shape
    have eg : gst = g15 := by
      have h := est
      simp [Act.eval] at h
      exact h.symm
    have ec : cst = #[.int .i64 SG.n, .slice a2 m2 c2, .int .i64 SG.i, .slice ap2 np2 cp2, .slice aq2 nq2 cq2] := by
      have h := evt
      simp [Act.eval] at h
      exact h.symm
    rw [eg, ec] at Gst
    obtain ⟨w4, hw4⟩ : ∃ w4, w4 = W1 := ⟨_, rfl⟩
    rw [← hw4] at Gst hA29 hkW1 ⊢
    have K24 : Kp [] w2 w4 := unhide HD w4 hkW1
    have hn1 : SG.n = (il : Int) := by rw [unhide HSGd]; rfl
    have hi1 : SG.i = (ky : Int) := by rw [unhide HSGd]; rfl
    rw [hn1, hi1] at Gst hA29
    have hlt : g15 < w4.heap.size := lt_of_block Gst
    have hLa : LaP w4 (.pointer (some ⟨g15, 0, none⟩)) S.seed S.its (some (il, ky)) (fun i => w2.heap.size ≤ i ∧ i < w4.heap.size) :=
      ⟨by rw [HIL.out]; exact Nat.le_refl _, unhide HKy, g15, _, _, _, rfl, ⟨hbn, hlt⟩, Gst, by rw [← unhide HSGd]; exact SgA.f hA29 (Kp.refl _ _)⟩
    have hstp := HXX.out.stepL (a := (il, ky)) K24 (fun i hi => hi) hLa
    have hfz := (HXX.out.on K24).at_.f 4
    have hc4 := (HXX.out.on K24).at_.c4
    have HST := hide hstp
    clear h26 h28 h17 h27 h29 hA29 hkW1 hbn est evt Gst eg ec hall hst hstp hw4 hLa K24 hn1 hi1 hlt
    go_wp2_with fail
    go_ret
    refine ⟨rfl, _, ⟨j, s, q, .slice av nv cv, .pointer (some ⟨g15, 0, none⟩), ?_⟩, HT2.out.trans HST.out.2⟩
    have := HST.out.1
    rw [HIL.out, HKY.out] at this
    simpa using this
set_option maxRecDepth 100000 in
set_option maxHeartbeats 4000000 in
theorem upublish_old (h : Lg w0 w l pd pk S f) (a1 a2 : Nat) (hla : S.la = some (a1, a2)) (ha : a1 = S.its.length) : Calls Tryz.prog 33 #[.pointer (some ⟨l, 0, none⟩)] w fun e w' => ∃ v, e = .returned (.tuple #[v, .int .i64 0]) ∧ SgU w.heap.size w' v (sgU S.seed S.its (a1, a2)) ∧ Kp [] w w' := by
  obtain ⟨j, s, q, vs, pv, hx⟩ := h
  have hla2 := hx.la
  rw [hla] at hla2
  obtain ⟨hle, ha16, tt, vr, vp, vq, rfl, hFt, hFv, hSF⟩ := hla2
  obtain ⟨ar, mr, cr, ap, np, cp, aq, nq, cq, e2, -, -⟩ := hSF.v.shape
  simp only [Value.agg.injEq, Array.mk.injEq, List.cons.injEq, and_true] at e2
  obtain ⟨-, rfl, -, rfl, rfl⟩ := e2
  obtain ⟨av, cv, hvs, -⟩ := hx.sd
  obtain ⟨nv, hnv⟩ : ∃ n, n = S.seed.length := ⟨_, rfl⟩
  rw [← hnv] at hvs
  subst hvs
  obtain ⟨g0, hg⟩ : ∃ g, g = w.heap.size := ⟨_, rfl⟩
  obtain ⟨w1, hw1⟩ : ∃ w1, w1 = w.alloc (.cells #[.int .i64 0, .slice none 0 0, .int .i64 0, .slice none 0 0, .slice none 0 0] 72) := ⟨_, rfl⟩
  have K1 : Kp [] w w1 := by rw [hw1]; exact (Kp.refl [] w).alloc _
  have G0 : w1.heap[g0]? = some (.cells #[.int .i64 0, .slice none 0 0, .int .i64 0, .slice none 0 0, .slice none 0 0] 72 (0, 0)) := by rw [hw1, hg]; exact heap_alloc_new w _
  have hX1 := hx.on K1
  have HD : Hid (∀ w', Kp [] w1.drew w' → Kp [] w1 w') := fun w' k' => (kp_drew w1).trans k'
  have HAt : Hid (∀ w', Kp [] w1.drew w' → Fv 99 w' l (.func (.func 44) #[.pointer (some ⟨j, 0, none⟩)] #[]) (.pointer (some ⟨s, 0, none⟩)) (.pointer (some ⟨q, 0, none⟩)) (.slice av nv cv) (.pointer (some ⟨tt, 0, none⟩))) := fun w' k => hX1.at_.kept (HD.out w' k) (by simp)
  have HTt : Hid (∀ w', Kp [] w1.drew w' → Fv 72 w' tt (.int .i64 (a1 : Int)) (.slice ar mr cr) (.int .i64 (a2 : Int)) (.slice ap np cp) (.slice aq nq cq)) := fun w' k => hFv.kept (K1.trans (HD.out w' k)) (by simp)
  have HLg : Hid (∀ w', Kp [] w1.drew w' → Lg w0 w' l pd pk S f) := fun w' k => ⟨j, s, q, _, _, hX1.on (HD.out w' k)⟩
  obtain ⟨il, hil⟩ : ∃ k, k = S.its.length := ⟨_, rfl⟩
  have HIl : Hid ((il : Int) = (S.its.length : Int)) := hide (by rw [hil])
  have HCmp : Hid ((a1 : Int) = (il : Int)) := hide (by rw [ha, hil])
  have HX1 := hide hX1
  have HFv := hide hFv
  have HSF := hide hSF
  have Hsm := hide (sgU_small S.seed S.its (a1, a2) ha16)
  have HK1 := hide K1
  have HGe := hide hg
  have HW1 := hide hw1
  have HG0 := hide G0
  clear hx hla hFv hSF hle hFt K1 hg hw1 hX1 ha hnv hil G0
  go_enter Tryz.func33, Tryz.ntmps33
  go_wp2_with fail
  rw [← HW1.out, ← HGe.out]
  refine region_grow Tryz.mixed [Is (.pointer (some ⟨l, 0, none⟩)), Is (.pointer (some ⟨l, 0, none⟩)), Is (.pointer (some ⟨l, 4, none⟩)), Is (.pointer (some ⟨tt, 0, none⟩)), Is (.bool false), Is (.bool false), Is (.pointer (some ⟨l, 0, none⟩)), Is (.pointer (some ⟨l, 0, none⟩)), Is (.pointer (some ⟨l, 4, none⟩)), Is (.pointer (some ⟨tt, 0, none⟩)), Is (.pointer (some ⟨tt, 0, none⟩)), Is (.pointer (some ⟨tt, 0, none⟩)), Is (.pointer (some ⟨tt, 0, none⟩)), Is (.int .i64 (a1 : Int)), Is (.pointer (some ⟨l, 0, none⟩)), Is (.int .i64 (il : Int)), Is (.bool false), Is (.bool false)] [[(0, none)], [(5, some 0)], [(6, some 1)], [(7, some 2)], [(8, some 3)], [(9, some 4)], [(0, none), (10, some 5)], [(11, some 6), (10, some 5)], [(12, some 7), (10, some 5)], [(13, some 8), (10, some 5)], [(14, some 9), (10, some 5)], [(15, some 10), (10, some 5)], [(16, some 11), (10, some 5)], [(17, some 12), (10, some 5)], [(0, none), (10, some 5)], [(19, some 14), (10, some 5)], [(18, some 13), (20, some 15), (10, some 5)], [(10, some 5), (21, some 16)]] (by kernel_rfl) ?_ ?_ ?_
  · simp only [List.mem_cons, List.not_mem_nil, or_false]
    intro R hR
    rcases hR with rfl | rfl | rfl | rfl | rfl | rfl | rfl | rfl | rfl | rfl | rfl | rfl | rfl | rfl | rfl | rfl | rfl | rfl <;> first | exact stable_is _
  · refine steps_cons (fun a w hk hn => ?_) ?_
    · have h0 : a.eval (.tmp 0) = .pointer (some ⟨l, 0, none⟩) := hn.1
      clear hn
      refine wants_plain rfl ?_
      exact grown_move (.tmp 0) rfl h0
    refine steps_cons (fun a w hk hn => ?_) ?_
    · have h5 : a.eval (.tmp 5) = .pointer (some ⟨l, 0, none⟩) := hn.1
      clear hn
      refine wants_plain rfl ?_
      refine grown_run (v := .pointer (some ⟨l, 0, none⟩)) ?_ (Kp.refl _ _) rfl
      obtain ⟨ρ, hρ, hc, hf, hg⟩ := eval_is a
      rw [hρ] at h5 ⊢
      simp [go_sem, h5]
    refine steps_cons (fun a w hk hn => ?_) ?_
    · have h6 : a.eval (.tmp 6) = .pointer (some ⟨l, 0, none⟩) := hn.1
      clear hn
      refine wants_plain rfl ?_
      refine grown_run (v := .pointer (some ⟨l, 4, none⟩)) ?_ (Kp.refl _ _) rfl
      obtain ⟨ρ, hρ, hc, hf, hg⟩ := eval_is a
      rw [hρ] at h6 ⊢
      simp [go_sem, h6]
    refine steps_cons (fun a w hk hn => ?_) ?_
    · have h7 : a.eval (.tmp 7) = .pointer (some ⟨l, 4, none⟩) := hn.1
      clear hn
      refine wants_plain rfl ?_
      refine grown_run (v := .pointer (some ⟨tt, 0, none⟩)) ?_ (Kp.refl _ _) rfl
      have hcell : w.cell? ⟨l, 4, none⟩ = some (.pointer (some ⟨tt, 0, none⟩)) := by rw [cell_of_row w l 4 _ _ _ (HAt.out w hk)]; rfl
      obtain ⟨ρ, hρ, hc, hf, hg⟩ := eval_is a
      rw [hρ] at h7 ⊢
      simp [go_sem, h7, hcell]
    refine steps_cons (fun a w hk hn => ?_) ?_
    · have h8 : a.eval (.tmp 8) = .pointer (some ⟨tt, 0, none⟩) := hn.1
      clear hn
      refine wants_plain rfl ?_
      refine grown_run (v := .bool false) ?_ (Kp.refl _ _) rfl
      obtain ⟨ρ, hρ, hc, hf, hg⟩ := eval_is a
      rw [hρ] at h8 ⊢
      simp [go_sem, hc, h8]
    refine steps_cons (fun a w hk hn => ?_) ?_
    · have h9 : a.eval (.tmp 9) = .bool false := hn.1
      clear hn
      refine wants_plain rfl ?_
      exact grown_move (.tmp 9) rfl h9
    refine steps_cons (fun a w hk hn => ?_) ?_
    · have h0 : a.eval (.tmp 0) = .pointer (some ⟨l, 0, none⟩) := hn.1
      have h10 : a.eval (.tmp 10) = .bool false := hn.2.1
      clear hn
      refine wants_guard (d := 10) rfl rfl h10 ?_
      exact grown_move (.tmp 0) rfl h0
    refine steps_cons (fun a w hk hn => ?_) ?_
    · have h11 : a.eval (.tmp 11) = .pointer (some ⟨l, 0, none⟩) := hn.1
      have h10 : a.eval (.tmp 10) = .bool false := hn.2.1
      clear hn
      refine wants_guard (d := 10) rfl rfl h10 ?_
      refine grown_run (v := .pointer (some ⟨l, 0, none⟩)) ?_ (Kp.refl _ _) rfl
      obtain ⟨ρ, hρ, hc, hf, hg⟩ := eval_is a
      rw [hρ] at h11 ⊢
      simp [go_sem, h11]
    refine steps_cons (fun a w hk hn => ?_) ?_
    · have h12 : a.eval (.tmp 12) = .pointer (some ⟨l, 0, none⟩) := hn.1
      have h10 : a.eval (.tmp 10) = .bool false := hn.2.1
      clear hn
      refine wants_guard (d := 10) rfl rfl h10 ?_
      refine grown_run (v := .pointer (some ⟨l, 4, none⟩)) ?_ (Kp.refl _ _) rfl
      obtain ⟨ρ, hρ, hc, hf, hg⟩ := eval_is a
      rw [hρ] at h12 ⊢
      simp [go_sem, h12]
    refine steps_cons (fun a w hk hn => ?_) ?_
    · have h13 : a.eval (.tmp 13) = .pointer (some ⟨l, 4, none⟩) := hn.1
      have h10 : a.eval (.tmp 10) = .bool false := hn.2.1
      clear hn
      refine wants_guard (d := 10) rfl rfl h10 ?_
      refine grown_run (v := .pointer (some ⟨tt, 0, none⟩)) ?_ (Kp.refl _ _) rfl
      have hcell : w.cell? ⟨l, 4, none⟩ = some (.pointer (some ⟨tt, 0, none⟩)) := by rw [cell_of_row w l 4 _ _ _ (HAt.out w hk)]; rfl
      obtain ⟨ρ, hρ, hc, hf, hg⟩ := eval_is a
      rw [hρ] at h13 ⊢
      simp [go_sem, h13, hcell]
    refine steps_cons (fun a w hk hn => ?_) ?_
    · have h14 : a.eval (.tmp 14) = .pointer (some ⟨tt, 0, none⟩) := hn.1
      have h10 : a.eval (.tmp 10) = .bool false := hn.2.1
      clear hn
      refine wants_guard (d := 10) rfl rfl h10 ?_
      refine grown_run (v := .pointer (some ⟨tt, 0, none⟩)) ?_ (Kp.refl _ _) rfl
      obtain ⟨ρ, hρ, hc, hf, hg⟩ := eval_is a
      rw [hρ] at h14 ⊢
      simp [go_sem, h14]
    refine steps_cons (fun a w hk hn => ?_) ?_
    · have h15 : a.eval (.tmp 15) = .pointer (some ⟨tt, 0, none⟩) := hn.1
      have h10 : a.eval (.tmp 10) = .bool false := hn.2.1
      clear hn
      refine wants_guard (d := 10) rfl rfl h10 ?_
      refine grown_run (v := .pointer (some ⟨tt, 0, none⟩)) ?_ (Kp.refl _ _) rfl
      obtain ⟨ρ, hρ, hc, hf, hg⟩ := eval_is a
      rw [hρ] at h15 ⊢
      simp [go_sem, h15]
    refine steps_cons (fun a w hk hn => ?_) ?_
    · have h16 : a.eval (.tmp 16) = .pointer (some ⟨tt, 0, none⟩) := hn.1
      have h10 : a.eval (.tmp 10) = .bool false := hn.2.1
      clear hn
      refine wants_guard (d := 10) rfl rfl h10 ?_
      refine grown_run (v := .pointer (some ⟨tt, 0, none⟩)) ?_ (Kp.refl _ _) rfl
      obtain ⟨ρ, hρ, hc, hf, hg⟩ := eval_is a
      rw [hρ] at h16 ⊢
      simp [go_sem, h16]
    refine steps_cons (fun a w hk hn => ?_) ?_
    · have h17 : a.eval (.tmp 17) = .pointer (some ⟨tt, 0, none⟩) := hn.1
      have h10 : a.eval (.tmp 10) = .bool false := hn.2.1
      clear hn
      refine wants_guard (d := 10) rfl rfl h10 ?_
      refine grown_run (v := .int .i64 (a1 : Int)) ?_ (Kp.refl _ _) rfl
      have hcell : w.cell? ⟨tt, 0, none⟩ = some (.int .i64 (a1 : Int)) := by rw [cell_of_row w tt 0 _ _ _ (HTt.out w hk)]; rfl
      obtain ⟨ρ, hρ, hc, hf, hg⟩ := eval_is a
      rw [hρ] at h17 ⊢
      simp [go_sem, h17, hcell]
    refine steps_cons (fun a w hk hn => ?_) ?_
    · have h0 : a.eval (.tmp 0) = .pointer (some ⟨l, 0, none⟩) := hn.1
      have h10 : a.eval (.tmp 10) = .bool false := hn.2.1
      clear hn
      refine wants_guard (d := 10) rfl rfl h10 ?_
      exact grown_move (.tmp 0) rfl h0
    refine steps_cons (fun a w hk hn => ?_) ?_
    · have h19 : a.eval (.tmp 19) = .pointer (some ⟨l, 0, none⟩) := hn.1
      have h10 : a.eval (.tmp 10) = .bool false := hn.2.1
      clear hn
      refine wants_guard (d := 10) rfl rfl h10 ?_
      refine grown_call (f := 16) rfl Tryz.func16 (by kernel_rfl) (by kernel_rfl) ?_
      simp only [List.map_toArray, List.map_cons, List.map_nil, h19]
      refine (usize_any (HLg.out w hk) (il : Int) HIl.out).mono ?_
      rintro e w' ⟨rfl, rfl⟩
      exact ⟨_, rfl, Kp.refl _ _, rfl⟩
    refine steps_cons (fun a w hk hn => ?_) ?_
    · have h18 : a.eval (.tmp 18) = .int .i64 (a1 : Int) := hn.1
      have h20 : a.eval (.tmp 20) = .int .i64 (il : Int) := hn.2.1
      have h10 : a.eval (.tmp 10) = .bool false := hn.2.2.1
      clear hn
      refine wants_guard (d := 10) rfl rfl h10 ?_
      refine grown_run (v := .bool false) ?_ (Kp.refl _ _) rfl
      obtain ⟨ρ, hρ, hc, hf, hg⟩ := eval_is a
      rw [hρ] at h18 h20 ⊢
      simp [go_sem, h18, h20, HCmp.out]
    refine steps_cons (fun a w hk hn => ?_) ?_
    · have h10 : a.eval (.tmp 10) = .bool false := hn.1
      have h21 : a.eval (.tmp 21) = .bool false := hn.2.1
      clear hn
      refine wants_plain rfl ?_
      exact grown_pick _ _ _ false rfl h10 h21
    exact trivial
  intro W1 hkW1
  rintro _ rfl
  rintro _ rfl
  rintro _ rfl
  rintro _ rfl
  rintro _ rfl
  rintro _ rfl
  rintro _ rfl
  rintro _ rfl
  rintro _ rfl
  rintro _ rfl
  rintro _ rfl
  rintro _ rfl
  rintro _ rfl
  rintro _ rfl
  rintro _ rfl
  rintro _ rfl
  rintro _ rfl
  rintro _ rfl
  refine fin_nil ?_
  simp only [Act.put, List.set_cons_zero, List.set_cons_succ, List.setIfInBounds_toArray]
  have K12 := HD.out W1 hkW1
  have hX := HX1.out.on K12
  have hFv5 := HFv.out.kept (HK1.out.trans K12) (by simp)
  have hV5 := (HSF.out.kept (HK1.out.trans K12) (by simp)).v
  have hsm := Hsm.out
  have G0 := K12.heap HG0.out (by simp)
  have HK12 := hide (HK1.out.trans K12)
  clear K12 hkW1 HG0
  have x0 := hFv5.c0
  have x1 := hFv5.c1
  have x2 := hFv5.c2
  have x3 := hFv5.c3
  have x4 := hFv5.c4
  have y4 := hX.at_.c4
  have HC := hide (ucopy_any (.agg #[.int .i64 (a1 : Int), .slice ar mr cr, .int .i64 (a2 : Int), .slice ap np cp, .slice aq nq cq]) _ W1 hV5 hsm)
  have HG0 := hide G0
  have hg0 : g0 < W1.heap.size := lt_of_block G0
  have HX5 := hide hX
  clear hV5 hsm G0 hFv5 hX
  go_wp2_with fail
  refine HC.out.mono ?_
  rintro ee w5 ⟨v5, rfl, A5, K5⟩
  obtain ⟨br, kr, dr, bp, kp, dp, bq', kq, dq, rfl, -, -⟩ := A5.v.shape
  have G5 := K5.heap HG0.out (by simp)
  have HA5 := hide A5
  have HK5 := hide K5
  clear HC A5 K5 x0 x1 x2 x3 x4 y4
  go_wp2_with (refine wpList_store_flat rfl 72 (.tmp 2) (.tmp 35) rfl g0 0 rfl _ _ [.int .i64 _, .slice br kr dr, .int .i64 _, .slice bp kp dp, .slice bq' kq dq] G5 rfl (by simp) Tryz.sgdSize (by simp [Value.oneCell']) #[.int .i64 _, .slice br kr dr, .int .i64 _, .slice bp kp dp, .slice bq' kq dq] rfl ?_; intro w6 G6 K6)
  refine bodyPost_ret (results_flat2 rfl _ rfl G6 Tryz.underlying72 rfl Tryz.sgdSize) rfl ?_
  have hA6 := HA5.out.kept (S := [g0]) (by simpa using hg0) K6
  exact ⟨_, rfl, hA6.low HK12.out.size, (HK12.out.trans HK5.out).then K6 (fun i hi => .inr (by simp at hi; have := HGe.out; omega))⟩
set_option maxRecDepth 100000 in
set_option maxHeartbeats 8000000 in
theorem upub_anyN (h : Lg w0 w l pd pk S f) (hG : Gl w0) (hla : S.la = none) (hn : S.n < 16) (hmb : S.mb ≤ 1000) (er : Bool) (dk' : Dk) (he : S.dk.add (recP [(S.n : Int)]) = (er, dk')) : Calls Tryz.prog 33 #[.pointer (some ⟨l, 0, none⟩)] w fun e w' => ∃ v en, e = .returned (.tuple #[v, .int .i64 en]) ∧ en = (if er then 0 else 13) ∧ ∃ f', Lg w0 w' l pd pk { S with dk := dk', mb := S.mb + 1, n := if er then S.n + 1 else S.n, la := if er then some (S.its.length, S.n) else S.la } f' ∧ LSt w f w' f' ∧ ∃ b, (∀ i, f'.tot i → i < b) ∧ w.heap.size ≤ b ∧ b ≤ w'.heap.size ∧ (if er then SgU b w' v (sgU S.seed S.its (S.its.length, S.n)) else v = sgd0) := by
  obtain ⟨j, s, q, vs, pv, hx⟩ := h
  have hla2 := hx.la
  rw [hla] at hla2
  obtain rfl : pv = .pointer none := hla2
  obtain ⟨av, cv, hvs, -⟩ := hx.sd
  obtain ⟨nv, hnv⟩ : ∃ n, n = S.seed.length := ⟨_, rfl⟩
  rw [← hnv] at hvs
  subst hvs
  obtain ⟨g0, hg⟩ : ∃ g, g = w.heap.size := ⟨_, rfl⟩
  obtain ⟨w1, hw1⟩ : ∃ w1, w1 = w.alloc (.cells #[.int .i64 0, .slice none 0 0, .int .i64 0, .slice none 0 0, .slice none 0 0] 72) := ⟨_, rfl⟩
  have K1 : Kp [] w w1 := by rw [hw1]; exact (Kp.refl [] w).alloc _
  have G0 : w1.heap[g0]? = some (.cells #[.int .i64 0, .slice none 0 0, .int .i64 0, .slice none 0 0, .slice none 0 0] 72 (0, 0)) := by rw [hw1, hg]; exact heap_alloc_new w _
  have hX1 := hx.on K1
  have HD : Hid (∀ w', Kp [] w1.drew w' → Kp [] w1 w') := fun w' k' => (kp_drew w1).trans k'
  have HAt : Hid (∀ w', Kp [] w1.drew w' → Fv 99 w' l (.func (.func 44) #[.pointer (some ⟨j, 0, none⟩)] #[]) (.pointer (some ⟨s, 0, none⟩)) (.pointer (some ⟨q, 0, none⟩)) (.slice av nv cv) (.pointer none)) := fun w' k => hX1.at_.kept (HD.out w' k) (by simp)
  have HX1 := hide hX1
  have HK1 := hide K1
  have HGe := hide hg
  have HW1 := hide hw1
  have HG0 := hide G0
  have hg0f : f.tot g0 → g0 < w.heap.size := fun ⟨a, ha'⟩ => by have := hx.ok.rng a _ ha'; omega
  have Hw0 := hide hx.ok.kp.size
  have HN := hide hn
  have HG := hide hG
  have HMb := hide hmb
  have HE := hide he
  obtain ⟨en, hen⟩ : ∃ en : Int, en = if er then 0 else 13 := ⟨_, rfl⟩
  have HEn := hide hen
  clear hn hG hmb he hen
  clear hx hla K1 hg hw1 hX1 hnv G0
  go_enter Tryz.func33, Tryz.ntmps33
  go_wp2_with fail
  rw [← HW1.out, ← HGe.out]
  refine region_grow Tryz.mixed [Is (.pointer (some ⟨l, 0, none⟩)), Is (.pointer (some ⟨l, 0, none⟩)), Is (.pointer (some ⟨l, 4, none⟩)), Is (.pointer none), Is (.bool true), Is (.bool true), Is (undef), Is (undef), Is (undef), Is (undef), Is (undef), Is (undef), Is (undef), Is (undef), Is (undef), Is (undef), Is (undef), Is (.bool true)] [[(0, none)], [(5, some 0)], [(6, some 1)], [(7, some 2)], [(8, some 3)], [(9, some 4)], [(0, none), (10, some 5)], [(11, some 6), (10, some 5)], [(12, some 7), (10, some 5)], [(13, some 8), (10, some 5)], [(14, some 9), (10, some 5)], [(15, some 10), (10, some 5)], [(16, some 11), (10, some 5)], [(17, some 12), (10, some 5)], [(0, none), (10, some 5)], [(19, some 14), (10, some 5)], [(18, some 13), (20, some 15), (10, some 5)], [(10, some 5), (21, some 16)]] (by kernel_rfl) ?_ ?_ ?_
  · simp only [List.mem_cons, List.not_mem_nil, or_false]
    intro R hR
    rcases hR with rfl | rfl | rfl | rfl | rfl | rfl | rfl | rfl | rfl | rfl | rfl | rfl | rfl | rfl | rfl | rfl | rfl | rfl <;> first | exact stable_is _
  · refine steps_cons (fun a w hk hn => ?_) ?_
    · have h0 : a.eval (.tmp 0) = .pointer (some ⟨l, 0, none⟩) := hn.1
      clear hn
      refine wants_plain rfl ?_
      exact grown_move (.tmp 0) rfl h0
    refine steps_cons (fun a w hk hn => ?_) ?_
    · have h5 : a.eval (.tmp 5) = .pointer (some ⟨l, 0, none⟩) := hn.1
      clear hn
      refine wants_plain rfl ?_
      refine grown_run (v := .pointer (some ⟨l, 0, none⟩)) ?_ (Kp.refl _ _) rfl
      obtain ⟨ρ, hρ, hc, hf, hg⟩ := eval_is a
      rw [hρ] at h5 ⊢
      simp [go_sem, h5]
    refine steps_cons (fun a w hk hn => ?_) ?_
    · have h6 : a.eval (.tmp 6) = .pointer (some ⟨l, 0, none⟩) := hn.1
      clear hn
      refine wants_plain rfl ?_
      refine grown_run (v := .pointer (some ⟨l, 4, none⟩)) ?_ (Kp.refl _ _) rfl
      obtain ⟨ρ, hρ, hc, hf, hg⟩ := eval_is a
      rw [hρ] at h6 ⊢
      simp [go_sem, h6]
    refine steps_cons (fun a w hk hn => ?_) ?_
    · have h7 : a.eval (.tmp 7) = .pointer (some ⟨l, 4, none⟩) := hn.1
      clear hn
      refine wants_plain rfl ?_
      refine grown_run (v := .pointer none) ?_ (Kp.refl _ _) rfl
      have hcell : w.cell? ⟨l, 4, none⟩ = some (.pointer none) := by rw [cell_of_row w l 4 _ _ _ (HAt.out w hk)]; rfl
      obtain ⟨ρ, hρ, hc, hf, hg⟩ := eval_is a
      rw [hρ] at h7 ⊢
      simp [go_sem, h7, hcell]
    refine steps_cons (fun a w hk hn => ?_) ?_
    · have h8 : a.eval (.tmp 8) = .pointer none := hn.1
      clear hn
      refine wants_plain rfl ?_
      refine grown_run (v := .bool true) ?_ (Kp.refl _ _) rfl
      obtain ⟨ρ, hρ, hc, hf, hg⟩ := eval_is a
      rw [hρ] at h8 ⊢
      simp [go_sem, hc, h8]
    refine steps_cons (fun a w hk hn => ?_) ?_
    · have h9 : a.eval (.tmp 9) = .bool true := hn.1
      clear hn
      refine wants_plain rfl ?_
      exact grown_move (.tmp 9) rfl h9
    refine steps_cons (fun a w hk hn => ?_) ?_
    · have h0 : a.eval (.tmp 0) = .pointer (some ⟨l, 0, none⟩) := hn.1
      have h10 : a.eval (.tmp 10) = .bool true := hn.2.1
      clear hn
      exact wants_not (d := 10) rfl rfl h10 rfl
    refine steps_cons (fun a w hk hn => ?_) ?_
    · have h11 : a.eval (.tmp 11) = undef := hn.1
      have h10 : a.eval (.tmp 10) = .bool true := hn.2.1
      clear hn
      exact wants_not (d := 10) rfl rfl h10 rfl
    refine steps_cons (fun a w hk hn => ?_) ?_
    · have h12 : a.eval (.tmp 12) = undef := hn.1
      have h10 : a.eval (.tmp 10) = .bool true := hn.2.1
      clear hn
      exact wants_not (d := 10) rfl rfl h10 rfl
    refine steps_cons (fun a w hk hn => ?_) ?_
    · have h13 : a.eval (.tmp 13) = undef := hn.1
      have h10 : a.eval (.tmp 10) = .bool true := hn.2.1
      clear hn
      exact wants_not (d := 10) rfl rfl h10 rfl
    refine steps_cons (fun a w hk hn => ?_) ?_
    · have h14 : a.eval (.tmp 14) = undef := hn.1
      have h10 : a.eval (.tmp 10) = .bool true := hn.2.1
      clear hn
      exact wants_not (d := 10) rfl rfl h10 rfl
    refine steps_cons (fun a w hk hn => ?_) ?_
    · have h15 : a.eval (.tmp 15) = undef := hn.1
      have h10 : a.eval (.tmp 10) = .bool true := hn.2.1
      clear hn
      exact wants_not (d := 10) rfl rfl h10 rfl
    refine steps_cons (fun a w hk hn => ?_) ?_
    · have h16 : a.eval (.tmp 16) = undef := hn.1
      have h10 : a.eval (.tmp 10) = .bool true := hn.2.1
      clear hn
      exact wants_not (d := 10) rfl rfl h10 rfl
    refine steps_cons (fun a w hk hn => ?_) ?_
    · have h17 : a.eval (.tmp 17) = undef := hn.1
      have h10 : a.eval (.tmp 10) = .bool true := hn.2.1
      clear hn
      exact wants_not (d := 10) rfl rfl h10 rfl
    refine steps_cons (fun a w hk hn => ?_) ?_
    · have h0 : a.eval (.tmp 0) = .pointer (some ⟨l, 0, none⟩) := hn.1
      have h10 : a.eval (.tmp 10) = .bool true := hn.2.1
      clear hn
      exact wants_not (d := 10) rfl rfl h10 rfl
    refine steps_cons (fun a w hk hn => ?_) ?_
    · have h19 : a.eval (.tmp 19) = undef := hn.1
      have h10 : a.eval (.tmp 10) = .bool true := hn.2.1
      clear hn
      exact wants_not (d := 10) rfl rfl h10 rfl
    refine steps_cons (fun a w hk hn => ?_) ?_
    · have h18 : a.eval (.tmp 18) = undef := hn.1
      have h20 : a.eval (.tmp 20) = undef := hn.2.1
      have h10 : a.eval (.tmp 10) = .bool true := hn.2.2.1
      clear hn
      exact wants_not (d := 10) rfl rfl h10 rfl
    refine steps_cons (fun a w hk hn => ?_) ?_
    · have h10 : a.eval (.tmp 10) = .bool true := hn.1
      have h21 : a.eval (.tmp 21) = undef := hn.2.1
      clear hn
      refine wants_plain rfl ?_
      exact grown_pick _ _ _ true rfl h10 rfl
    exact trivial
  intro W1 hkW1
  rintro _ rfl
  rintro _ rfl
  rintro _ rfl
  rintro _ rfl
  rintro _ rfl
  rintro _ rfl
  rintro _ rfl
  rintro _ rfl
  rintro _ rfl
  rintro _ rfl
  rintro _ rfl
  rintro _ rfl
  rintro _ rfl
  rintro _ rfl
  rintro _ rfl
  rintro _ rfl
  rintro _ rfl
  rintro _ rfl
  refine fin_nil ?_
  simp only [Act.put, List.set_cons_zero, List.set_cons_succ, List.setIfInBounds_toArray]
  have K12 := HD.out W1 hkW1
  have HX2 := hide (HX1.out.on K12)
  have HG2 := hide (K12.heap HG0.out (by simp))
  have HK12 := hide (HK1.out.trans K12)
  clear K12 hkW1 HG0
  have HSn := hide (usign_any ⟨j, s, q, _, _, HX2.out⟩ HG.out HN.out HMb.out er dk' HE.out en HEn.out)
  have hlt2 : g0 < W1.heap.size := lt_of_block HG2.out
  have hlt0 : g0 = w.heap.size := HGe.out
  have Hlt0 := hide hlt0
  have hno : ¬ f.tot g0 := fun e => by have := hg0f e; omega
  go_wp2_with fail
  refine HSn.out.mono ?_
  rintro ee w3 ⟨rfl, f', L3, T3⟩
  have HL3 := hide L3
  have HT3 : Hid (LSt w f w3 f') := (Stp.mid HK12.out).trans T3
  have HG3 := hide (T3.heap HG2.out hno)
  have hng : ¬ f'.tot g0 := T3.off hlt2 hno
  have HNG := hide hng
  have hg3 : g0 < w3.heap.size := lt_of_block HG3.out
  have Hsz := hide T3.size
  clear HSn L3 T3 hno hng hlt2 hlt0
  cases er
  · obtain rfl : en = 13 := by rw [HEn.out]; rfl
    have G3 := HG3.out
    go_wp2_with (refine wpList_store_flat rfl 72 (.tmp 2) (.tmp 27) rfl g0 0 rfl _ _ [.int .i64 0, .slice none 0 0, .int .i64 0, .slice none 0 0, .slice none 0 0] G3 rfl (by simp) Tryz.sgdSize (by simp [Value.oneCell']) #[.int .i64 0, .slice none 0 0, .int .i64 0, .slice none 0 0, .slice none 0 0] rfl ?_; intro w7 G7 K7)
    refine bodyPost_ret (results_flat2 rfl _ rfl G7 Tryz.underlying72 rfl Tryz.sgdSize) rfl ?_
    have hl7 : ∀ i ∈ [g0], w0.heap.size ≤ i ∧ ¬ f'.tot i := fun i hi => by simp at hi; subst hi; exact ⟨by have := Hlt0.out; have := Hw0.out; omega, HNG.out⟩
    refine ⟨_, 13, rfl, rfl, f', HL3.out.beside K7 hl7, HT3.out.aside K7 (by have := Hlt0.out; simp; omega), w3.heap.size, fun i hi => (HL3.out.lt i hi).2, HT3.out.size, K7.size, rfl⟩
  · obtain rfl : en = 0 := by rw [HEn.out]; rfl
    obtain ⟨a1, hza1⟩ : ∃ a, a = S.its.length := ⟨_, rfl⟩
    obtain ⟨a2, hza2⟩ : ∃ a, a = S.n := ⟨_, rfl⟩
    obtain ⟨j3, s3, q3, vs3, pv3, hX⟩ := HL3.out
    have hla3 := hX.la
    simp only [if_true] at hla3
    rw [← hza1, ← hza2] at hla3
    have HZ1 := hide hza1
    have HZ2 := hide hza2
    clear hza1 hza2
    obtain ⟨hle3, ha3, tt, vr, vp, vq, rfl, hFt3, hFv3, hSF3⟩ := hla3
    obtain ⟨ar, mr, cr, ap, np, cp, aq, nq, cq, e2, -, -⟩ := hSF3.v.shape
    simp only [Value.agg.injEq, Array.mk.injEq, List.cons.injEq, and_true] at e2
    obtain ⟨-, rfl, -, rfl, rfl⟩ := e2
    have hFv5 := hFv3
    have hV5 := hSF3.v
    have hsm := sgU_small S.seed S.its (a1, a2) ha3
    have G0 := HG3.out
    clear hFv3 hSF3 hle3 hFt3 ha3 HL3
    have x0 := hFv5.c0
    have x1 := hFv5.c1
    have x2 := hFv5.c2
    have x3 := hFv5.c3
    have x4 := hFv5.c4
    have y4 := hX.at_.c4
    have HC := hide (ucopy_any (.agg #[.int .i64 (a1 : Int), .slice ar mr cr, .int .i64 (a2 : Int), .slice ap np cp, .slice aq nq cq]) _ w3 hV5 hsm)
    have HG0 := hide G0
    have hg0 : g0 < w3.heap.size := lt_of_block G0
    have HX5 := hide hX
    clear hV5 hsm G0 hFv5 hX
    go_wp2_with fail
    refine HC.out.mono ?_
    rintro ee w5 ⟨v5, rfl, A5, K5⟩
    obtain ⟨br, kr, dr, bp, kp, dp, bq', kq, dq, rfl, -, -⟩ := A5.v.shape
    have G5 := K5.heap HG0.out (by simp)
    have HA5 := hide A5
    have HK5 := hide K5
    clear HC A5 K5 x0 x1 x2 x3 x4 y4
    go_wp2_with (refine wpList_store_flat rfl 72 (.tmp 2) (.tmp 35) rfl g0 0 rfl _ _ [.int .i64 _, .slice br kr dr, .int .i64 _, .slice bp kp dp, .slice bq' kq dq] G5 rfl (by simp) Tryz.sgdSize (by simp [Value.oneCell']) #[.int .i64 _, .slice br kr dr, .int .i64 _, .slice bp kp dp, .slice bq' kq dq] rfl ?_; intro w6 G6 K6)
    refine bodyPost_ret (results_flat2 rfl _ rfl G6 Tryz.underlying72 rfl Tryz.sgdSize) rfl ?_
    have hA6 := HA5.out.kept (S := [g0]) (by simpa using hg0) K6
    have hl7 : ∀ i ∈ [g0], w0.heap.size ≤ i ∧ ¬ f'.tot i := fun i hi => by simp at hi; subst hi; exact ⟨by have := Hlt0.out; have := Hw0.out; omega, HNG.out⟩
    have L5 : Lg w0 w6 l pd pk _ f' := ⟨j3, s3, q3, vs3, _, (HX5.out.on HK5.out).beside K6 hl7⟩
    refine ⟨_, 0, rfl, rfl, f', L5, (HT3.out.trans (Stp.mid HK5.out)).aside K6 (by have := Hlt0.out; simp; omega), w3.heap.size, fun i ⟨a, ha'⟩ => (HX5.out.ok.rng a i ha').2, HT3.out.size, Nat.le_trans HK5.out.size K6.size, ?_⟩
    have e6 : (S.its.length, S.n) = (a1, a2) := by rw [HZ1.out, HZ2.out]
    rw [e6]
    exact hA6
set_option maxRecDepth 100000 in
set_option maxHeartbeats 8000000 in
theorem upub_anyS (h : Lg w0 w l pd pk S f) (hG : Gl w0) (a1 a2 : Nat) (hla : S.la = some (a1, a2)) (ha : a1 ≠ S.its.length) (hn : S.n < 16) (hmb : S.mb ≤ 1000) (er : Bool) (dk' : Dk) (he : S.dk.add (recP [(S.n : Int)]) = (er, dk')) : Calls Tryz.prog 33 #[.pointer (some ⟨l, 0, none⟩)] w fun e w' => ∃ v en, e = .returned (.tuple #[v, .int .i64 en]) ∧ en = (if er then 0 else 13) ∧ ∃ f', Lg w0 w' l pd pk { S with dk := dk', mb := S.mb + 1, n := if er then S.n + 1 else S.n, la := if er then some (S.its.length, S.n) else S.la } f' ∧ LSt w f w' f' ∧ ∃ b, (∀ i, f'.tot i → i < b) ∧ w.heap.size ≤ b ∧ b ≤ w'.heap.size ∧ (if er then SgU b w' v (sgU S.seed S.its (S.its.length, S.n)) else v = sgd0) := by
  obtain ⟨j, s, q, vs, pv, hx⟩ := h
  have hla2 := hx.la
  rw [hla] at hla2
  obtain ⟨hle, ha16, tt, vr, vp, vq, rfl, hFt, hFv, hSF⟩ := hla2
  obtain ⟨ar, mr, cr, ap, np, cp, aq, nq, cq, e2, -, -⟩ := hSF.v.shape
  simp only [Value.agg.injEq, Array.mk.injEq, List.cons.injEq, and_true] at e2
  obtain ⟨-, rfl, -, rfl, rfl⟩ := e2
  obtain ⟨av, cv, hvs, -⟩ := hx.sd
  obtain ⟨nv, hnv⟩ : ∃ n, n = S.seed.length := ⟨_, rfl⟩
  rw [← hnv] at hvs
  subst hvs
  obtain ⟨g0, hg⟩ : ∃ g, g = w.heap.size := ⟨_, rfl⟩
  obtain ⟨w1, hw1⟩ : ∃ w1, w1 = w.alloc (.cells #[.int .i64 0, .slice none 0 0, .int .i64 0, .slice none 0 0, .slice none 0 0] 72) := ⟨_, rfl⟩
  have K1 : Kp [] w w1 := by rw [hw1]; exact (Kp.refl [] w).alloc _
  have G0 : w1.heap[g0]? = some (.cells #[.int .i64 0, .slice none 0 0, .int .i64 0, .slice none 0 0, .slice none 0 0] 72 (0, 0)) := by rw [hw1, hg]; exact heap_alloc_new w _
  have hX1 := hx.on K1
  have HD : Hid (∀ w', Kp [] w1.drew w' → Kp [] w1 w') := fun w' k' => (kp_drew w1).trans k'
  have HAt : Hid (∀ w', Kp [] w1.drew w' → Fv 99 w' l (.func (.func 44) #[.pointer (some ⟨j, 0, none⟩)] #[]) (.pointer (some ⟨s, 0, none⟩)) (.pointer (some ⟨q, 0, none⟩)) (.slice av nv cv) (.pointer (some ⟨tt, 0, none⟩))) := fun w' k => hX1.at_.kept (HD.out w' k) (by simp)
  have HTt : Hid (∀ w', Kp [] w1.drew w' → Fv 72 w' tt (.int .i64 (a1 : Int)) (.slice ar mr cr) (.int .i64 (a2 : Int)) (.slice ap np cp) (.slice aq nq cq)) := fun w' k => hFv.kept (K1.trans (HD.out w' k)) (by simp)
  have HLg : Hid (∀ w', Kp [] w1.drew w' → Lg w0 w' l pd pk S f) := fun w' k => ⟨j, s, q, _, _, hX1.on (HD.out w' k)⟩
  obtain ⟨il, hil⟩ : ∃ k, k = S.its.length := ⟨_, rfl⟩
  have HIl : Hid ((il : Int) = (S.its.length : Int)) := hide (by rw [hil])
  have HCmp : Hid (¬ (a1 : Int) = (il : Int)) := hide (by rw [hil]; omega)
  have HX1 := hide hX1
  have HK1 := hide K1
  have HGe := hide hg
  have HW1 := hide hw1
  have HG0 := hide G0
  have hg0f : f.tot g0 → g0 < w.heap.size := fun ⟨a, ha'⟩ => by have := hx.ok.rng a _ ha'; omega
  have Hw0 := hide hx.ok.kp.size
  have HN := hide hn
  have HG := hide hG
  have HMb := hide hmb
  have HE := hide he
  obtain ⟨en, hen⟩ : ∃ en : Int, en = if er then 0 else 13 := ⟨_, rfl⟩
  have HEn := hide hen
  clear hn hG hmb he hen
  clear hx hla hFv hSF hle hFt K1 hg hw1 hX1 ha hnv hil G0 ha16
  go_enter Tryz.func33, Tryz.ntmps33
  go_wp2_with fail
  rw [← HW1.out, ← HGe.out]
  refine region_grow Tryz.mixed [Is (.pointer (some ⟨l, 0, none⟩)), Is (.pointer (some ⟨l, 0, none⟩)), Is (.pointer (some ⟨l, 4, none⟩)), Is (.pointer (some ⟨tt, 0, none⟩)), Is (.bool false), Is (.bool false), Is (.pointer (some ⟨l, 0, none⟩)), Is (.pointer (some ⟨l, 0, none⟩)), Is (.pointer (some ⟨l, 4, none⟩)), Is (.pointer (some ⟨tt, 0, none⟩)), Is (.pointer (some ⟨tt, 0, none⟩)), Is (.pointer (some ⟨tt, 0, none⟩)), Is (.pointer (some ⟨tt, 0, none⟩)), Is (.int .i64 (a1 : Int)), Is (.pointer (some ⟨l, 0, none⟩)), Is (.int .i64 (il : Int)), Is (.bool true), Is (.bool true)] [[(0, none)], [(5, some 0)], [(6, some 1)], [(7, some 2)], [(8, some 3)], [(9, some 4)], [(0, none), (10, some 5)], [(11, some 6), (10, some 5)], [(12, some 7), (10, some 5)], [(13, some 8), (10, some 5)], [(14, some 9), (10, some 5)], [(15, some 10), (10, some 5)], [(16, some 11), (10, some 5)], [(17, some 12), (10, some 5)], [(0, none), (10, some 5)], [(19, some 14), (10, some 5)], [(18, some 13), (20, some 15), (10, some 5)], [(10, some 5), (21, some 16)]] (by kernel_rfl) ?_ ?_ ?_
  · simp only [List.mem_cons, List.not_mem_nil, or_false]
    intro R hR
    rcases hR with rfl | rfl | rfl | rfl | rfl | rfl | rfl | rfl | rfl | rfl | rfl | rfl | rfl | rfl | rfl | rfl | rfl | rfl <;> first | exact stable_is _
  · refine steps_cons (fun a w hk hn => ?_) ?_
    · have h0 : a.eval (.tmp 0) = .pointer (some ⟨l, 0, none⟩) := hn.1
      clear hn
      refine wants_plain rfl ?_
      exact grown_move (.tmp 0) rfl h0
    refine steps_cons (fun a w hk hn => ?_) ?_
    · have h5 : a.eval (.tmp 5) = .pointer (some ⟨l, 0, none⟩) := hn.1
      clear hn
      refine wants_plain rfl ?_
      refine grown_run (v := .pointer (some ⟨l, 0, none⟩)) ?_ (Kp.refl _ _) rfl
      obtain ⟨ρ, hρ, hc, hf, hg⟩ := eval_is a
      rw [hρ] at h5 ⊢
      simp [go_sem, h5]
    refine steps_cons (fun a w hk hn => ?_) ?_
    · have h6 : a.eval (.tmp 6) = .pointer (some ⟨l, 0, none⟩) := hn.1
      clear hn
      refine wants_plain rfl ?_
      refine grown_run (v := .pointer (some ⟨l, 4, none⟩)) ?_ (Kp.refl _ _) rfl
      obtain ⟨ρ, hρ, hc, hf, hg⟩ := eval_is a
      rw [hρ] at h6 ⊢
      simp [go_sem, h6]
    refine steps_cons (fun a w hk hn => ?_) ?_
    · have h7 : a.eval (.tmp 7) = .pointer (some ⟨l, 4, none⟩) := hn.1
      clear hn
      refine wants_plain rfl ?_
      refine grown_run (v := .pointer (some ⟨tt, 0, none⟩)) ?_ (Kp.refl _ _) rfl
      have hcell : w.cell? ⟨l, 4, none⟩ = some (.pointer (some ⟨tt, 0, none⟩)) := by rw [cell_of_row w l 4 _ _ _ (HAt.out w hk)]; rfl
      obtain ⟨ρ, hρ, hc, hf, hg⟩ := eval_is a
      rw [hρ] at h7 ⊢
      simp [go_sem, h7, hcell]
    refine steps_cons (fun a w hk hn => ?_) ?_
    · have h8 : a.eval (.tmp 8) = .pointer (some ⟨tt, 0, none⟩) := hn.1
      clear hn
      refine wants_plain rfl ?_
      refine grown_run (v := .bool false) ?_ (Kp.refl _ _) rfl
      obtain ⟨ρ, hρ, hc, hf, hg⟩ := eval_is a
      rw [hρ] at h8 ⊢
      simp [go_sem, hc, h8]
    refine steps_cons (fun a w hk hn => ?_) ?_
    · have h9 : a.eval (.tmp 9) = .bool false := hn.1
      clear hn
      refine wants_plain rfl ?_
      exact grown_move (.tmp 9) rfl h9
    refine steps_cons (fun a w hk hn => ?_) ?_
    · have h0 : a.eval (.tmp 0) = .pointer (some ⟨l, 0, none⟩) := hn.1
      have h10 : a.eval (.tmp 10) = .bool false := hn.2.1
      clear hn
      refine wants_guard (d := 10) rfl rfl h10 ?_
      exact grown_move (.tmp 0) rfl h0
    refine steps_cons (fun a w hk hn => ?_) ?_
    · have h11 : a.eval (.tmp 11) = .pointer (some ⟨l, 0, none⟩) := hn.1
      have h10 : a.eval (.tmp 10) = .bool false := hn.2.1
      clear hn
      refine wants_guard (d := 10) rfl rfl h10 ?_
      refine grown_run (v := .pointer (some ⟨l, 0, none⟩)) ?_ (Kp.refl _ _) rfl
      obtain ⟨ρ, hρ, hc, hf, hg⟩ := eval_is a
      rw [hρ] at h11 ⊢
      simp [go_sem, h11]
    refine steps_cons (fun a w hk hn => ?_) ?_
    · have h12 : a.eval (.tmp 12) = .pointer (some ⟨l, 0, none⟩) := hn.1
      have h10 : a.eval (.tmp 10) = .bool false := hn.2.1
      clear hn
      refine wants_guard (d := 10) rfl rfl h10 ?_
      refine grown_run (v := .pointer (some ⟨l, 4, none⟩)) ?_ (Kp.refl _ _) rfl
      obtain ⟨ρ, hρ, hc, hf, hg⟩ := eval_is a
      rw [hρ] at h12 ⊢
      simp [go_sem, h12]
    refine steps_cons (fun a w hk hn => ?_) ?_
    · have h13 : a.eval (.tmp 13) = .pointer (some ⟨l, 4, none⟩) := hn.1
      have h10 : a.eval (.tmp 10) = .bool false := hn.2.1
      clear hn
      refine wants_guard (d := 10) rfl rfl h10 ?_
      refine grown_run (v := .pointer (some ⟨tt, 0, none⟩)) ?_ (Kp.refl _ _) rfl
      have hcell : w.cell? ⟨l, 4, none⟩ = some (.pointer (some ⟨tt, 0, none⟩)) := by rw [cell_of_row w l 4 _ _ _ (HAt.out w hk)]; rfl
      obtain ⟨ρ, hρ, hc, hf, hg⟩ := eval_is a
      rw [hρ] at h13 ⊢
      simp [go_sem, h13, hcell]
    refine steps_cons (fun a w hk hn => ?_) ?_
    · have h14 : a.eval (.tmp 14) = .pointer (some ⟨tt, 0, none⟩) := hn.1
      have h10 : a.eval (.tmp 10) = .bool false := hn.2.1
      clear hn
      refine wants_guard (d := 10) rfl rfl h10 ?_
      refine grown_run (v := .pointer (some ⟨tt, 0, none⟩)) ?_ (Kp.refl _ _) rfl
      obtain ⟨ρ, hρ, hc, hf, hg⟩ := eval_is a
      rw [hρ] at h14 ⊢
      simp [go_sem, h14]
    refine steps_cons (fun a w hk hn => ?_) ?_
    · have h15 : a.eval (.tmp 15) = .pointer (some ⟨tt, 0, none⟩) := hn.1
      have h10 : a.eval (.tmp 10) = .bool false := hn.2.1
      clear hn
      refine wants_guard (d := 10) rfl rfl h10 ?_
      refine grown_run (v := .pointer (some ⟨tt, 0, none⟩)) ?_ (Kp.refl _ _) rfl
      obtain ⟨ρ, hρ, hc, hf, hg⟩ := eval_is a
      rw [hρ] at h15 ⊢
      simp [go_sem, h15]
    refine steps_cons (fun a w hk hn => ?_) ?_
    · have h16 : a.eval (.tmp 16) = .pointer (some ⟨tt, 0, none⟩) := hn.1
      have h10 : a.eval (.tmp 10) = .bool false := hn.2.1
      clear hn
      refine wants_guard (d := 10) rfl rfl h10 ?_
      refine grown_run (v := .pointer (some ⟨tt, 0, none⟩)) ?_ (Kp.refl _ _) rfl
      obtain ⟨ρ, hρ, hc, hf, hg⟩ := eval_is a
      rw [hρ] at h16 ⊢
      simp [go_sem, h16]
    refine steps_cons (fun a w hk hn => ?_) ?_
    · have h17 : a.eval (.tmp 17) = .pointer (some ⟨tt, 0, none⟩) := hn.1
      have h10 : a.eval (.tmp 10) = .bool false := hn.2.1
      clear hn
      refine wants_guard (d := 10) rfl rfl h10 ?_
      refine grown_run (v := .int .i64 (a1 : Int)) ?_ (Kp.refl _ _) rfl
      have hcell : w.cell? ⟨tt, 0, none⟩ = some (.int .i64 (a1 : Int)) := by rw [cell_of_row w tt 0 _ _ _ (HTt.out w hk)]; rfl
      obtain ⟨ρ, hρ, hc, hf, hg⟩ := eval_is a
      rw [hρ] at h17 ⊢
      simp [go_sem, h17, hcell]
    refine steps_cons (fun a w hk hn => ?_) ?_
    · have h0 : a.eval (.tmp 0) = .pointer (some ⟨l, 0, none⟩) := hn.1
      have h10 : a.eval (.tmp 10) = .bool false := hn.2.1
      clear hn
      refine wants_guard (d := 10) rfl rfl h10 ?_
      exact grown_move (.tmp 0) rfl h0
    refine steps_cons (fun a w hk hn => ?_) ?_
    · have h19 : a.eval (.tmp 19) = .pointer (some ⟨l, 0, none⟩) := hn.1
      have h10 : a.eval (.tmp 10) = .bool false := hn.2.1
      clear hn
      refine wants_guard (d := 10) rfl rfl h10 ?_
      refine grown_call (f := 16) rfl Tryz.func16 (by kernel_rfl) (by kernel_rfl) ?_
      simp only [List.map_toArray, List.map_cons, List.map_nil, h19]
      refine (usize_any (HLg.out w hk) (il : Int) HIl.out).mono ?_
      rintro e w' ⟨rfl, rfl⟩
      exact ⟨_, rfl, Kp.refl _ _, rfl⟩
    refine steps_cons (fun a w hk hn => ?_) ?_
    · have h18 : a.eval (.tmp 18) = .int .i64 (a1 : Int) := hn.1
      have h20 : a.eval (.tmp 20) = .int .i64 (il : Int) := hn.2.1
      have h10 : a.eval (.tmp 10) = .bool false := hn.2.2.1
      clear hn
      refine wants_guard (d := 10) rfl rfl h10 ?_
      refine grown_run (v := .bool true) ?_ (Kp.refl _ _) rfl
      obtain ⟨ρ, hρ, hc, hf, hg⟩ := eval_is a
      rw [hρ] at h18 h20 ⊢
      simp [go_sem, h18, h20, HCmp.out]
    refine steps_cons (fun a w hk hn => ?_) ?_
    · have h10 : a.eval (.tmp 10) = .bool false := hn.1
      have h21 : a.eval (.tmp 21) = .bool true := hn.2.1
      clear hn
      refine wants_plain rfl ?_
      exact grown_pick _ _ _ false rfl h10 h21
    exact trivial
  intro W1 hkW1
  rintro _ rfl
  rintro _ rfl
  rintro _ rfl
  rintro _ rfl
  rintro _ rfl
  rintro _ rfl
  rintro _ rfl
  rintro _ rfl
  rintro _ rfl
  rintro _ rfl
  rintro _ rfl
  rintro _ rfl
  rintro _ rfl
  rintro _ rfl
  rintro _ rfl
  rintro _ rfl
  rintro _ rfl
  rintro _ rfl
  refine fin_nil ?_
  simp only [Act.put, List.set_cons_zero, List.set_cons_succ, List.setIfInBounds_toArray]
  have K12 := HD.out W1 hkW1
  have HX2 := hide (HX1.out.on K12)
  have HG2 := hide (K12.heap HG0.out (by simp))
  have HK12 := hide (HK1.out.trans K12)
  clear K12 hkW1 HG0
  have HSn := hide (usign_any ⟨j, s, q, _, _, HX2.out⟩ HG.out HN.out HMb.out er dk' HE.out en HEn.out)
  have hlt2 : g0 < W1.heap.size := lt_of_block HG2.out
  have hlt0 : g0 = w.heap.size := HGe.out
  have Hlt0 := hide hlt0
  have hno : ¬ f.tot g0 := fun e => by have := hg0f e; omega
  go_wp2_with fail
  refine HSn.out.mono ?_
  rintro ee w3 ⟨rfl, f', L3, T3⟩
  have HL3 := hide L3
  have HT3 : Hid (LSt w f w3 f') := (Stp.mid HK12.out).trans T3
  have HG3 := hide (T3.heap HG2.out hno)
  have hng : ¬ f'.tot g0 := T3.off hlt2 hno
  have HNG := hide hng
  have hg3 : g0 < w3.heap.size := lt_of_block HG3.out
  have Hsz := hide T3.size
  clear HSn L3 T3 hno hng hlt2 hlt0
  cases er
  · obtain rfl : en = 13 := by rw [HEn.out]; rfl
    have G3 := HG3.out
    go_wp2_with (refine wpList_store_flat rfl 72 (.tmp 2) (.tmp 27) rfl g0 0 rfl _ _ [.int .i64 0, .slice none 0 0, .int .i64 0, .slice none 0 0, .slice none 0 0] G3 rfl (by simp) Tryz.sgdSize (by simp [Value.oneCell']) #[.int .i64 0, .slice none 0 0, .int .i64 0, .slice none 0 0, .slice none 0 0] rfl ?_; intro w7 G7 K7)
    refine bodyPost_ret (results_flat2 rfl _ rfl G7 Tryz.underlying72 rfl Tryz.sgdSize) rfl ?_
    have hl7 : ∀ i ∈ [g0], w0.heap.size ≤ i ∧ ¬ f'.tot i := fun i hi => by simp at hi; subst hi; exact ⟨by have := Hlt0.out; have := Hw0.out; omega, HNG.out⟩
    refine ⟨_, 13, rfl, rfl, f', HL3.out.beside K7 hl7, HT3.out.aside K7 (by have := Hlt0.out; simp; omega), w3.heap.size, fun i hi => (HL3.out.lt i hi).2, HT3.out.size, K7.size, rfl⟩
  · obtain rfl : en = 0 := by rw [HEn.out]; rfl
    obtain ⟨a1, hza1⟩ : ∃ a, a = S.its.length := ⟨_, rfl⟩
    obtain ⟨a2, hza2⟩ : ∃ a, a = S.n := ⟨_, rfl⟩
    obtain ⟨j3, s3, q3, vs3, pv3, hX⟩ := HL3.out
    have hla3 := hX.la
    simp only [if_true] at hla3
    rw [← hza1, ← hza2] at hla3
    have HZ1 := hide hza1
    have HZ2 := hide hza2
    clear hza1 hza2
    obtain ⟨hle3, ha3, tt, vr, vp, vq, rfl, hFt3, hFv3, hSF3⟩ := hla3
    obtain ⟨ar, mr, cr, ap, np, cp, aq, nq, cq, e2, -, -⟩ := hSF3.v.shape
    simp only [Value.agg.injEq, Array.mk.injEq, List.cons.injEq, and_true] at e2
    obtain ⟨-, rfl, -, rfl, rfl⟩ := e2
    have hFv5 := hFv3
    have hV5 := hSF3.v
    have hsm := sgU_small S.seed S.its (a1, a2) ha3
    have G0 := HG3.out
    clear hFv3 hSF3 hle3 hFt3 ha3 HL3
    have x0 := hFv5.c0
    have x1 := hFv5.c1
    have x2 := hFv5.c2
    have x3 := hFv5.c3
    have x4 := hFv5.c4
    have y4 := hX.at_.c4
    have HC := hide (ucopy_any (.agg #[.int .i64 (a1 : Int), .slice ar mr cr, .int .i64 (a2 : Int), .slice ap np cp, .slice aq nq cq]) _ w3 hV5 hsm)
    have HG0 := hide G0
    have hg0 : g0 < w3.heap.size := lt_of_block G0
    have HX5 := hide hX
    clear hV5 hsm G0 hFv5 hX
    go_wp2_with fail
    refine HC.out.mono ?_
    rintro ee w5 ⟨v5, rfl, A5, K5⟩
    obtain ⟨br, kr, dr, bp, kp, dp, bq', kq, dq, rfl, -, -⟩ := A5.v.shape
    have G5 := K5.heap HG0.out (by simp)
    have HA5 := hide A5
    have HK5 := hide K5
    clear HC A5 K5 x0 x1 x2 x3 x4 y4
    go_wp2_with (refine wpList_store_flat rfl 72 (.tmp 2) (.tmp 35) rfl g0 0 rfl _ _ [.int .i64 _, .slice br kr dr, .int .i64 _, .slice bp kp dp, .slice bq' kq dq] G5 rfl (by simp) Tryz.sgdSize (by simp [Value.oneCell']) #[.int .i64 _, .slice br kr dr, .int .i64 _, .slice bp kp dp, .slice bq' kq dq] rfl ?_; intro w6 G6 K6)
    refine bodyPost_ret (results_flat2 rfl _ rfl G6 Tryz.underlying72 rfl Tryz.sgdSize) rfl ?_
    have hA6 := HA5.out.kept (S := [g0]) (by simpa using hg0) K6
    have hl7 : ∀ i ∈ [g0], w0.heap.size ≤ i ∧ ¬ f'.tot i := fun i hi => by simp at hi; subst hi; exact ⟨by have := Hlt0.out; have := Hw0.out; omega, HNG.out⟩
    have L5 : Lg w0 w6 l pd pk _ f' := ⟨j3, s3, q3, vs3, _, (HX5.out.on HK5.out).beside K6 hl7⟩
    refine ⟨_, 0, rfl, rfl, f', L5, (HT3.out.trans (Stp.mid HK5.out)).aside K6 (by have := Hlt0.out; simp; omega), w3.heap.size, fun i ⟨a, ha'⟩ => (HX5.out.ok.rng a i ha').2, HT3.out.size, Nat.le_trans HK5.out.size K6.size, ?_⟩
    have e6 : (S.its.length, S.n) = (a1, a2) := by rw [HZ1.out, HZ2.out]
    rw [e6]
    exact hA6
end
end Go.Proofs.YtillhpgdlmeajaaGreatDoor

/-
  The contract of package ledger's unlaid: what a record is read as.
-/
namespace Go.Proofs.YtillhpgdlmeajaaGreatDoor
open Go.RowKit
open Go.Proofs
set_option linter.unusedVariables false
/-- such a row whose slices lie from base on. -/
def RowsQ (w : World) (base : Nat) (v : Value) (l : List (Value × List Int)) : Prop := RowS w base v l ∧ ∀ x ∈ l, ∀ k, x.1.ownBlock = some k → base ≤ k
theorem RowsQ.kept {w w' : World} {base : Nat} {v : Value} {l : List (Value × List Int)} {S : List Nat} (h : RowsQ w base v l) (k : Kp S w w') (hS : ∀ i ∈ S, i < base) : RowsQ w' base v l :=
  ⟨⟨h.1.1.kept k (fun i hi hm => by have := h.1.1.own i hi; have := hS i hm; omega), fun x hx => ⟨(h.1.2 x hx).1.kept k (fun i hi hm => by have := h.2 x hx i hi; have := hS i hm; omega), (h.1.2 x hx).2⟩⟩, h.2⟩
theorem wpList_rowsQ {base : Nat} {w2 : World} {ops : Array Oper} {rest : List Oper} {o : Oper} {a : Act} {Q : Exit → Act → World → Prop} (hgd : o.guard = none) (s x : Operand)
    (ho : o.op = .call { callee := .builtin .append, args := #[s, x], argTypes := #[33, 33] }) (v : Value) (l : List (Value × List Int)) (hs : a.eval s = v) (hP : RowsQ w2 base v l) (hbase : base ≤ w2.heap.size) (hl : l.length ≤ 1000000)
    (vx : Value) (bs : List Int) (hr : Sl w2 vx bs) (hap : ∀ i, vx.ownBlock = some i → v.ownBlock ≠ some i) (hnb : ∀ i, vx.ownBlock = some i → base ≤ i) (hb : Bs bs) (hx : a.eval x = .slice (some ⟨w2.heap.size, 0, none⟩) 1 1)
    (h : ∀ ao m c w', RowsQ w' base (.slice ao m c) (l ++ [(vx, bs)]) → Kp v.ownBlock.toList w2 w' → wpList Tryz.prog ops Q rest (a.put o.dst (.slice ao m c)) w') : wpList Tryz.prog ops Q (o :: rest) a (w2.alloc (.cells #[vx] 22)) := by
  have k2 : Kp [] w2 (w2.alloc (.cells #[vx] 22)) := (Kp.refl [] w2).alloc _
  have hP2 := hP.1.kept k2
  obtain ⟨ax, cx, hvx, -⟩ := id hr
  refine wpList_append_rowv hgd s x ho base v (l.map (·.1)) hs hP2.1 ⟨w2.heap.size, 0, none⟩ 1 [vx] hx ?_ ?_ ?_ ?_ ?_
  · intro j u hu
    exact World.news_of_block (heap_alloc_new w2 _) j u (by simpa using hu)
  · simp [hvx, Value.oneCell']
  · simp; omega
  · simp; omega
  · intro ao m c w' r st
    refine h ao m c w' ⟨hP2.snocJ (x := (vx, bs)) (hr.kept k2 (by simp)) hb (fun i h1 h2 => absurd h2 (hap i h1)) r st, fun y hy => ?_⟩ ?_
    · rcases List.mem_append.1 hy with hy | hy
      · exact hP.2 y hy
      · obtain rfl : y = (vx, bs) := by simpa using hy
        exact hnb
    · exact (k2.mono (by simp)).trans st.1
theorem ubad_any (q : Nat) (v : Value) (bad : Bool) (bs : List Int) (w : World) (h : Rd w q v bad bs) :
    Calls Tryz.prog 128 #[.pointer (some ⟨q, 0, none⟩)] w fun e w' => e = .returned (.bool bad) ∧ w' = w := by
  have hc1 := (cell_of_two h.1).2
  clear h
  go_enter Tryz.func128, Tryz.ntmps128
  go_wp2
  go_ret
  exact ⟨rfl, rfl⟩
theorem val_u32 (cs : List Int) (h : Bs cs) (hl : cs.length ≤ 4) : 0 ≤ val cs ∧ val cs ≤ 4294967295 := by
  have h1 := val_bd cs h
  have : cs.length = 0 ∨ cs.length = 1 ∨ cs.length = 2 ∨ cs.length = 3 ∨ cs.length = 4 := by omega
  rcases this with e | e | e | e | e <;> rw [e] at h1 <;> omega
theorem tkb_less {b : List Int} (h : (tkb false b 65535).2.1 = false) : (tkb false b 65535).2.2.length + 2 ≤ b.length := by
  obtain ⟨h1, h2, h3, h4⟩ := tkb_bad h
  rw [h4]
  have := @tk_len false (b.drop 2) (val (b.take 2))
  rw [List.length_drop] at this
  omega
theorem itsU_step {k : Nat} {b b' x : List Int} {xs : List (List Int)} (h : tkb false b 65535 = (x, false, b')) : (itsU (k + 1) b).map (xs ++ ·) = (itsU k b').map ((xs ++ [x]) ++ ·) := by
  rw [itsU, h]
  simp only [Bool.false_eq_true, if_false]
  cases itsU k b' <;> simp
/-- the end of the loop. -/
theorem unl_end {n0 k : Nat} {b0 b r : List Int} {bad0 bad : Bool} {xs : List (List Int)} (hU : unlU r = if bad0 then none else if n0 = 0 then none else itsU n0 b0) (hk : xs.length + k = n0) (hx : k = 0 ∨ bad = true) (h1 : bad = true → k = 0 ∧ n0 = 0 ∨ itsU n0 b0 = none) (h2 : bad = false → bad0 = false ∧ itsU n0 b0 = (itsU k b).map (xs ++ ·)) :
    (decide (0 < xs.length) && (!bad && b.isEmpty)) = (unlU r).isSome ∧ ∀ ys, unlU r = some ys → xs = ys := by
  cases bad with
  | true =>
    have e : unlU r = none := by
      rw [hU]
      split
      · rfl
      · split
        · rfl
        · rcases h1 rfl with h | h
          · omega
          · exact h
    rw [e]
    exact ⟨by simp, fun ys h => by cases h⟩
  | false =>
    obtain ⟨h3, h4⟩ := h2 rfl
    have hk0 : k = 0 := hx.resolve_right (by simp)
    subst hk0
    rw [h3] at hU
    simp only [Bool.false_eq_true, if_false] at hU
    rw [hU, h4]
    unfold itsU
    cases xs with
    | nil => simp at hk; subst hk; simp
    | cons y ys =>
      have : n0 ≠ 0 := by simp at hk; omega
      rw [if_neg this]
      cases b with
      | nil => simp
      | cons c cs => simp
set_option maxRecDepth 100000 in
set_option maxHeartbeats 4000000 in
theorem unlaid_any (v : Value) (r : List Int) (w : World) (hS : Sl w v r) (hB : Bs r) (hl : r.length ≤ 1000000) (ok : Bool) (hok0 : ok = (unlU r).isSome) :
    Calls Tryz.prog 90 #[v] w fun e w' => ∃ ao m c, e = .returned (.tuple #[.slice ao m c, .bool ok]) ∧ Kp [] w w' ∧ ∀ xs, unlU r = some xs → ∃ l, RowsQ w' w.heap.size (.slice ao m c) l ∧ l.map (·.2) = xs := by
  have HRd := hide (read_any v r w hS (by omega))
  have HOk0 := hide hok0
  clear hok0
  have HB := hide hB
  have HL := hide hl
  obtain ⟨ab, cb, rfl, -⟩ := hS
  obtain ⟨nr, hnr⟩ : ∃ n, n = r.length := ⟨_, rfl⟩
  rw [← hnr] at HRd ⊢
  have HNr := hide hnr
  clear hB hl hnr
  go_enter Tryz.func90, Tryz.ntmps90
  go_wp2_with fail
  refine HRd.out.mono ?_
  rintro ee w1 ⟨q, v1, rfl, hq, R1, hv1, K1⟩
  have HNm := hide (rnum_any q v1 false r w1 R1 HB.out)
  have HQ := hide hq
  have HK1 := hide K1
  have hq1 := lt_of_block R1.1
  have HV1 := hide hv1
  clear HRd hq R1 hv1 K1
  obtain ⟨n0, hn0⟩ : ∃ n : Nat, (val (tk false r 4).1) = (n : Int) ∧ n ≤ 4294967295 := by
    have h0 := val_u32 (tk false r 4).1 (tk_bs1 HB.out) (@tk_len1 false r 4)
    exact ⟨(val (tk false r 4).1).toNat, by omega, by omega⟩
  rw [hn0.1] at HNm
  have HN0 := hide hn0.1
  have hn32 := hn0.2
  clear hn0
  go_wp2_with fail
  refine HNm.out.mono ?_
  rintro ee w2 ⟨rfl, ⟨v2, R2, o2⟩, K2⟩
  obtain ⟨bad0, b0, hb0⟩ : ∃ bad b, (tk false r 4).2 = (bad, b) := ⟨_, _, rfl⟩
  rw [hb0] at R2
  simp only at R2
  have HBd : Hid (Bs b0) := hide (by have := @tk_bs2 false r 4 HB.out; rw [hb0] at this; exact this)
  have HBL : Hid (b0.length ≤ 1000000) := hide (by have := @tk_len false r 4; rw [hb0] at this; simp only at this; have := HL.out; omega)
  have HU : Hid (unlU r = if bad0 then none else if n0 = 0 then none else itsU n0 b0) := by
    refine hide ?_
    have hv := HN0.out
    unfold unlU
    by_cases h4 : r.length < 4
    · rw [if_pos h4]
      rw [tk_no false r 4 (.inr (by omega))] at hb0
      injection hb0 with e1 e2
      rw [← e1]; rfl
    · rw [if_neg h4]
      have e := tk_ok false r 4 (by omega)
      rw [show ((4 : Nat) : Int) = 4 from rfl] at e
      rw [e] at hb0 hv
      injection hb0 with e1 e2
      simp only at hv
      rw [← e1, ← e2, hv]
      simp
  have HB0 : Hid (bad0 = true → n0 = 0) := by
    refine hide (fun hb => ?_)
    by_cases h4 : r.length < 4
    · have hv := HN0.out
      rw [tk_no false r 4 (.inr (by omega))] at hv
      have : val [] = 0 := rfl
      simp only at hv
      omega
    · have e := tk_ok false r 4 (by omega)
      rw [show ((4 : Nat) : Int) = 4 from rfl] at e
      rw [e] at hb0
      injection hb0 with e1 e2
      rw [hb] at e1; cases e1
  have HI : Hid (∃ (k : Nat) (bad : Bool) (b : List Int) (l : List (Value × List Int)) (rv : Value), k ≤ n0 ∧ (Value.int .u32 (n0 : Int)) = .int .u32 k ∧ (∃ ao m c, (Value.slice none 0 0) = .slice ao m c) ∧ l.length + k = n0 ∧ Rd w2 q rv bad b ∧ (∀ i, rv.ownBlock = some i → i < w1.heap.size) ∧ Bs b ∧ b.length ≤ 1000000 ∧ RowsQ w2 w1.heap.size (.slice none 0 0) l ∧ Kp [q] w1 w2 ∧ l.length ≤ 1000000 ∧ (bad = false → l.length * 2 + b.length ≤ 1000004) ∧ (bad = true → k = 0 ∧ n0 = 0 ∨ itsU n0 b0 = none) ∧ (bad = false → bad0 = false ∧ itsU n0 b0 = (itsU k b).map (l.map (·.2) ++ ·))) := by
    refine hide ⟨n0, bad0, b0, [], v2, Nat.le_refl _, rfl, ⟨_, _, _, rfl⟩, by simp, R2, fun i hi => (HV1.out i (o2 i hi)).2, HBd.out, HBL.out, ⟨⟨World.ownsRow_nil _ _ _ _, by simp⟩, by simp⟩, K2, by simp, fun _ => by have := HBL.out; simp; omega, fun hb => .inl ⟨HB0.out hb, HB0.out hb⟩, fun hb => ⟨hb, by simp⟩⟩
  clear HNm R2 o2 K2 hb0
  go_wp2_with fail
  go_loopw [5, 6] (fun o s wr => ∃ (k : Nat) (bad : Bool) (b : List Int) (l : List (Value × List Int)) (rv : Value), k ≤ n0 ∧ s = .int .u32 k ∧ (∃ ao m c, o = .slice ao m c) ∧ l.length + k = n0 ∧ Rd wr q rv bad b ∧ (∀ i, rv.ownBlock = some i → i < w1.heap.size) ∧ Bs b ∧ b.length ≤ 1000000 ∧ RowsQ wr w1.heap.size o l ∧ Kp [q] w1 wr ∧ l.length ≤ 1000000 ∧ (bad = false → l.length * 2 + b.length ≤ 1000004) ∧ (bad = true → k = 0 ∧ n0 = 0 ∨ itsU n0 b0 = none) ∧ (bad = false → bad0 = false ∧ itsU n0 b0 = (itsU k b).map (l.map (·.2) ++ ·))) (fun _ s _ => (intOf s).toNat)
  case atStart => exact HI.out
  case round =>
    obtain ⟨k, bad, b, l, rv, hkn, rfl, ⟨ao, m, c, rfl⟩, hlk, R, hrv, hBb, hbl, P, K, hll, hl2, h1, h2⟩ := hrel
    have HR := hide R
    have HRv := hide hrv
    have HBb := hide hBb
    have Hbl := hide hbl
    have HP := hide P
    have HK := hide K
    have HB1 := hide h1
    have HB2 := hide h2
    have HLk := hide hlk
    have Hl2 := hide hl2
    have HKw : Hid (Kp [] w wr) := HK1.out.then K (fun i hi => .inr (by simp at hi; subst hi; exact HQ.out))
    have HPw : Hid (RowsQ wr w.heap.size (.slice ao m c) l) := by
      have hs := HK1.out.size
      exact hide ⟨⟨owns_rebase P.1.1 (fun i hi => Nat.le_trans hs (P.1.1.own i hi)), P.1.2⟩, fun x hx i hi => Nat.le_trans hs (P.2 x hx i hi)⟩
    clear HI R hrv hBb hbl P K h1 h2 hlk hl2
    by_cases hk0 : k = 0
    · have hk' : ¬ (0 : Int) < (k : Int) := by omega
      have hdk : decide ((0 : Int) < (k : Int)) = false := decide_eq_false hk'
      obtain ⟨hok, hxs⟩ := unl_end (xs := l.map (·.2)) HU.out (by rw [List.length_map]; exact HLk.out) (.inl hk0) HB1.out HB2.out
      rw [List.length_map] at hok
      have HOk := hide hok
      have HXs := hide hxs
      obtain ⟨ml, hml⟩ : ∃ m, m = l.length := ⟨_, rfl⟩
      have hmm : m = ml := by rw [hml]; have := HP.out.1.1.len; simpa using this
      subst hmm
      rw [← hml] at HOk
      clear hok hxs
      by_cases hpos : 0 < m
      · have hpos' : (0 : Int) < (m : Int) := by omega
        have hd : decide ((0 : Int) < (m : Int)) = true := decide_eq_true hpos'
        have HEnd := hide (end_any q rv bad b wr HR.out)
        obtain ⟨eb, heb⟩ : ∃ x, x = (!bad && b.isEmpty) := ⟨_, rfl⟩
        rw [← heb] at HEnd
        have HEB := hide heb
        clear hml heb
        go_wp2_with fail
        refine HEnd.out.mono ?_
        rintro ee w3 ⟨rfl, hw⟩
        subst w3
        clear HEnd
        go_wp2_with fail
        have heo : eb = ok := by rw [HOk0.out, ← HOk.out, HEB.out]; simp [hpos]
        subst heo
        go_ret2
        exact ⟨ao, m, c, rfl, HKw.out, fun xs hxs => ⟨l, HPw.out, HXs.out xs hxs⟩⟩
      · have hpos' : ¬ (0 : Int) < (m : Int) := by omega
        have hd : decide ((0 : Int) < (m : Int)) = false := decide_eq_false hpos'
        clear hml
        go_wp2_with fail
        have heo : ok = false := by rw [HOk0.out, ← HOk.out]; simp [hpos]
        subst heo
        go_ret2
        exact ⟨ao, m, c, rfl, HKw.out, fun xs hxs => ⟨l, HPw.out, HXs.out xs hxs⟩⟩
    · have hk' : (0 : Int) < (k : Int) := by omega
      have hdk : decide ((0 : Int) < (k : Int)) = true := decide_eq_true hk'
      have HBad := hide (ubad_any q rv bad b wr HR.out)
      by_cases hbt : bad = true
      · subst hbt
        obtain ⟨hok, hxs⟩ := unl_end (xs := l.map (·.2)) HU.out (by rw [List.length_map]; exact HLk.out) (.inr rfl) HB1.out HB2.out
        rw [List.length_map] at hok
        have HOk := hide hok
        have HXs := hide hxs
        obtain ⟨ml, hml⟩ : ∃ m, m = l.length := ⟨_, rfl⟩
        have hmm : m = ml := by rw [hml]; have := HP.out.1.1.len; simpa using this
        subst hmm
        rw [← hml] at HOk
        clear hok hxs
        by_cases hpos : 0 < m
        · have hpos' : (0 : Int) < (m : Int) := by omega
          have hd : decide ((0 : Int) < (m : Int)) = true := decide_eq_true hpos'
          have HEnd := hide (end_any q rv true b wr HR.out)
          obtain ⟨eb, heb⟩ : ∃ x, x = (!true && b.isEmpty) := ⟨_, rfl⟩
          rw [← heb] at HEnd
          have HEB := hide heb
          clear hml heb
          go_wp2_with fail
          refine HBad.out.mono ?_
          rintro ee w3 ⟨rfl, hw⟩
          subst w3
          clear HBad
          go_wp2_with fail
          refine HEnd.out.mono ?_
          rintro ee w3 ⟨rfl, hw⟩
          subst w3
          clear HEnd
          go_wp2_with fail
          have heo : eb = ok := by rw [HOk0.out, ← HOk.out, HEB.out]; simp [hpos]
          subst heo
          go_ret2
          exact ⟨ao, m, c, rfl, HKw.out, fun xs hxs => ⟨l, HPw.out, HXs.out xs hxs⟩⟩
        · have hpos' : ¬ (0 : Int) < (m : Int) := by omega
          have hd : decide ((0 : Int) < (m : Int)) = false := decide_eq_false hpos'
          clear hml
          go_wp2_with fail
          refine HBad.out.mono ?_
          rintro ee w3 ⟨rfl, hw⟩
          subst w3
          clear HBad
          go_wp2_with fail
          have heo : ok = false := by rw [HOk0.out, ← HOk.out]; simp [hpos]
          subst heo
          go_ret2
          exact ⟨ao, m, c, rfl, HKw.out, fun xs hxs => ⟨l, HPw.out, HXs.out xs hxs⟩⟩
      · obtain rfl : bad = false := by simpa using hbt
        have HBy := hide (rbytes_any q rv false b 65535 wr HR.out HBb.out (by have := Hbl.out; omega))
        obtain ⟨x, bad', b', ht⟩ : ∃ x bad' b', tkb false b 65535 = (x, bad', b') := ⟨_, _, _, rfl⟩
        rw [ht] at HBy
        simp only at HBy
        have HTk := hide ht
        have hw32 : IntKind.u32.wrap ((k : Int) - 1) = (k : Int) - 1 := by simp [IntKind.wrap, IntKind.signed, IntKind.bits]; omega
        clear ht hbt
        go_wp2_with fail
        refine HBad.out.mono ?_
        rintro ee w3 ⟨rfl, hw⟩
        subst w3
        clear HBad
        go_wp2_with fail
        refine HBy.out.mono ?_
        rintro ee w3 ⟨a3, c3, rfl, ⟨S3, o3⟩, ⟨v3, R3, ov3⟩, K3⟩
        obtain ⟨nx, hnx⟩ : ∃ n, n = x.length := ⟨_, rfl⟩
        rw [← hnx] at S3 o3 ⊢
        have HS3 := hide S3
        have Ho3 := hide o3
        have HR3 := hide R3
        have Hov3 := hide ov3
        have HK3 := hide K3
        have HP3 : Hid (RowsQ w3 w1.heap.size (.slice ao m c) l) := HP.out.kept K3 (by simpa using hq1)
        have hszr := HK.out.size
        have hszr3 := K3.size
        have HBx : Hid (Bs x) := hide (by have := @tkb_bs1 false b 65535 HBb.out; rw [HTk.out] at this; exact this)
        have hll2 : l.length ≤ 500002 := by have := Hl2.out (by first | rfl | trivial); omega
        clear HBy S3 o3 R3 ov3 K3 hnx
        go_wp2_with (at_builtin; refine wpList_rowsQ rfl (.tmp 20) (.tmp 23) rfl (.slice ao m c) l rfl HP3.out (by omega) (by omega) _ x HS3.out (fun i hi e => by have := Ho3.out i hi; have := HP.out.1.1.lt e; omega) (fun i hi => by have := Ho3.out i hi; omega) HBx.out rfl ?_; intro a7 m7 c7 w7 P7 K7)
        go_roundw
        case rel =>
          have hne : ∀ i, (Value.slice ao m c).ownBlock = some i → w1.heap.size ≤ i := HP.out.1.1.own
          have hR7 : Rd w7 q v3 bad' b' := HR3.out.kept K7 (fun hm => by have := hne q (by simpa [Option.mem_toList] using hm); omega) (fun i hi hm => by have h1 := HRv.out i (Hov3.out i hi); have := hne i (by simpa [Option.mem_toList] using hm); omega)
          refine ⟨k - 1, bad', b', l ++ [(_, x)], v3, by omega, ?_, ⟨a7, m7, c7, rfl⟩, ?_, hR7, fun i hi => HRv.out i (Hov3.out i hi), ?_, ?_, P7, (HK.out.trans HK3.out).then K7 (fun i hi => .inr (hne i (by simpa [Option.mem_toList] using hi))), ?_, ?_, ?_, ?_⟩
          · congr 1; omega
          · rw [List.length_append]; have := HLk.out; simp; omega
          · have := @tkb_bs2 false b 65535 HBb.out; rw [HTk.out] at this; exact this
          · have := @tkb_len false b 65535; rw [HTk.out] at this; simp only at this; have := Hbl.out; omega
          · rw [List.length_append]; simp; omega
          · intro hb
            rw [List.length_append]
            simp only [List.length_cons, List.length_nil]
            have h3 := tkb_less (b := b) (by rw [HTk.out]; exact hb)
            rw [HTk.out] at h3
            simp only at h3
            have h4 := Hl2.out (by first | rfl | trivial)
            omega
          · intro hb
            refine .inr ?_
            obtain ⟨e1, e2⟩ := HB2.out (by first | rfl | trivial)
            rw [e2, show k = (k - 1) + 1 by omega]
            unfold itsU
            rw [HTk.out, hb]
            rfl
          · intro hb
            obtain ⟨e1, e2⟩ := HB2.out (by first | rfl | trivial)
            refine ⟨e1, ?_⟩
            have hk1 : k = (k - 1) + 1 := by omega
            rw [e2]
            have ht := HTk.out
            rw [hb] at ht
            have := itsU_step (k := k - 1) (xs := l.map (·.2)) ht
            rw [← hk1] at this
            rw [this, List.map_append]
            rfl
        case measure => simp [intOf]; omega
end Go.Proofs.YtillhpgdlmeajaaGreatDoor

/-
  The contracts of package ledger: gathered, Open.
-/
namespace Go.Proofs.YtillhpgdlmeajaaGreatDoor
open Go.RowKit
open Go.Proofs
set_option linter.unusedVariables false
theorem tkbU_short (bad : Bool) (bs : List Int) (n : Nat) (hB : Bs bs) : (tkb bad bs n).1.length ≤ n := by
  unfold tkb
  split
  · simp
  · rename_i h
    have h2 : val (tk bad bs 2).1 ≤ (n : Int) := by omega
    have h0 := (val_bd _ (tk_bs1 (bad := bad) (n := 2) hB)).1
    obtain ⟨k, hk⟩ := Int.eq_ofNat_of_zero_le h0
    rw [hk] at h2 ⊢
    exact Nat.le_trans tk_len1 (by omega)
theorem lists_big {w : World} {base : Nat} {v : Value} {l : List (Value × List Int)} (h : RowS w base v l) (hl : l.length ≤ 1000000) : Lists w v l := by
  rcases h.1.2 with ⟨rfl, h0⟩ | ⟨g, cap, cur, rfl, _⟩
  · have : l = [] := List.eq_nil_of_length_eq_zero (by simpa using h0)
    subst this
    exact lists_nil w none 0
  · refine ⟨some ⟨g, 0, none⟩, cap, by simp, by omega, fun i hi => ⟨g, 0, rfl, ?_, (h.2 _ (List.getElem_mem hi)).1, (h.2 _ (List.getElem_mem hi)).2.1⟩⟩
    have := h.1.cells (g := g) rfl i l[i].1 (by simp [List.getElem?_eq_getElem hi])
    simpa [Addr.add_lit] using this
theorem itsU_bs : ∀ (n : Nat) (b : List Int) (xs : List (List Int)), Bs b → itsU n b = some xs → (∀ x ∈ xs, Bs x ∧ x.length ≤ 65535) ∧ xs.length * 2 ≤ b.length
  | 0, b, xs, hB, h => by
    unfold itsU at h
    split at h
    · cases h; simp
    · cases h
  | n + 1, b, xs, hB, h => by
    unfold itsU at h
    split at h
    · cases h
    · rename_i hbad
      have hbad : (tkb false b 65535).2.1 = false := by simpa using hbad
      cases h2 : itsU n (tkb false b 65535).2.2 with
      | none => rw [h2] at h; cases h
      | some ys =>
        rw [h2] at h
        simp only [Option.map_some, Option.some.injEq] at h
        obtain ⟨i1, i2⟩ := itsU_bs n _ ys (tkb_bs2 hB) h2
        have h3 := tkb_less hbad
        refine ⟨fun x hx => ?_, by rw [← h, List.length_cons]; omega⟩
        rw [← h] at hx
        rcases List.mem_cons.1 hx with rfl | hx
        · exact ⟨tkb_bs1 hB, tkbU_short false b 65535 hB⟩
        · exact i1 x hx
theorem unlU_bs {r : List Int} {xs : List (List Int)} (hB : Bs r) (h : unlU r = some xs) : (∀ x ∈ xs, Bs x ∧ x.length ≤ 65535) ∧ xs.length * 2 ≤ r.length := by
  unfold unlU at h
  split at h
  · cases h
  · split at h
    · cases h
    · obtain ⟨h1, h2⟩ := itsU_bs _ _ xs (fun b hb => hB b (List.mem_of_mem_drop hb)) h
      rw [List.length_drop] at h2
      exact ⟨h1, by omega⟩
theorem gatU_append (l a b : List (List Int)) : gatU l (a ++ b) = (gatU l a).bind (fun m => gatU m b) := by
  induction a generalizing l with
  | nil => rfl
  | cons x a ih =>
    simp only [List.cons_append, gatU]
    split
    · rfl
    · split
      · exact ih _
      · rfl
theorem gatU_none {rs : List (List Int)} {k : Nat} (h : gatU [] (rs.take k) = none) : gatU [] rs = none := by
  have := gatU_append [] (rs.take k) (rs.drop k)
  rw [List.take_append_drop, h] at this
  exact this
theorem gatU_succ {rs l : List (List Int)} {k : Nat} (hk : k < rs.length) (h : gatU [] (rs.take k) = some l) : gatU [] (rs.take (k + 1)) = match unlU rs[k] with
    | none => none
    | some xs => if (l ++ xs).Nodup then some (l ++ xs) else none := by
  rw [List.take_succ_eq_append_getElem hk, gatU_snoc, h]
  simp only [Option.bind_some, gatU]
  cases unlU rs[k] <;> rfl
/-- what records' lengths come to. -/
def lenU (rs : List (List Int)) : Nat := (rs.map List.length).sum
theorem lenU_take (rs : List (List Int)) (k : Nat) : lenU (rs.take k) ≤ lenU rs := by
  have := congrArg lenU (List.take_append_drop k rs)
  unfold lenU at this ⊢
  rw [List.map_append, List.sum_append] at this
  omega
theorem lenU_succ {rs : List (List Int)} {k : Nat} (hk : k < rs.length) : lenU (rs.take (k + 1)) = lenU (rs.take k) + rs[k].length := by
  rw [List.take_succ_eq_append_getElem hk]
  unfold lenU
  rw [List.map_append, List.sum_append]
  simp
set_option maxRecDepth 100000 in
set_option maxHeartbeats 8000000 in
theorem gathered_any (v : Value) (lv : List (Value × List Int)) (rs : List (List Int)) (hrs : lv.map (·.2) = rs) (w : World) (hL : Lists w v lv) (hB : ∀ r ∈ rs, Bs r) (hl : lenU rs ≤ 100000) (hn : rs.length ≤ 200000) (ok : Bool) (hok : ok = (redU rs).isSome) :
    Calls Tryz.prog 43 #[v] w fun e w' => ∃ p, e = .returned (.tuple #[p, .bool ok]) ∧ Kp [] w w' ∧ ∀ its, redU rs = some its → ∃ s F, p = .pointer (some ⟨s, 0, none⟩) ∧ Sh w' s its F ∧ ∀ i, F i → w.heap.size ≤ i ∧ i < w'.heap.size := by
  obtain ⟨al, cl, rfl, -, hcell⟩ := hL
  obtain ⟨N, hN⟩ : ∃ N, N = lv.length := ⟨_, rfl⟩
  have hNr : rs.length = N := by rw [← hrs, hN]; simp
  have hget : ∀ k (hk : k < N), ∃ (hk2 : k < rs.length), ∃ b off, al = some ⟨b, off, none⟩ ∧ ∃ u, w.cell? ⟨b, off + k, none⟩ = some u ∧ Sl w u rs[k] := fun k hk => by
    have hk1 : k < lv.length := by omega
    obtain ⟨b, off, e, h1, h2, h3⟩ := hcell k hk1
    have hk2 : k < rs.length := by omega
    have e2 : rs[k] = lv[k].2 := by simp [← hrs]
    exact ⟨hk2, b, off, e, lv[k].1, h1, by rw [e2]; exact h2⟩
  rw [← hN]
  have HGet := hide hget
  have HB := hide hB
  have HL := hide hl
  have HOk := hide hok
  have HNr := hide hNr
  have hN2 : N ≤ 200000 := by omega
  clear hcell hget hB hrs hN hn hl hok hNr
  go_enter Tryz.func43, Tryz.ntmps43
  go_wp2_with fail
  refine (newShelf_any w).mono ?_
  rintro ee w1 ⟨s2, F1, rfl, S1, hF1, K1⟩
  have HS1 := hide S1
  have HF1 := hide hF1
  have HK1 := hide K1
  clear S1 hF1 K1
  go_wp2_with fail
  go_loopw [16] (fun i wr => ∃ k : Nat, k ≤ N ∧ i = .int .i64 k ∧ ∃ its F, gatU [] (rs.take k) = some its ∧ Sh wr s2 its F ∧ its.length * 2 ≤ lenU (rs.take k) ∧ (∀ i, F i → w.heap.size ≤ i ∧ i < wr.heap.size) ∧ Kp [] w wr) (fun i _ => N - (intOf i).toNat)
  case atStart => exact ⟨0, by omega, rfl, [], F1, rfl, HS1.out, by simp, HF1.out, HK1.out⟩
  case round =>
    obtain ⟨k, hk, rfl, its, F, hg, Sf, hli, hF, K⟩ := hrel
    have HG := hide hg
    have HSf := hide Sf
    have HLi := hide hli
    have HF := hide hF
    have HK := hide K
    clear hg Sf hli hF HS1 HF1 HK1
    by_cases hlt : k < N
    · have hlt' : (k : Int) < (N : Int) := by omega
      obtain ⟨hkx, b, off, rfl, u, hu, hSu⟩ := HGet.out k hlt
      have hcu := K.cell hu (by simp)
      have hSu2 := hSu.kept K (by simp)
      have hsucc := gatU_succ hkx HG.out
      have hlsucc := lenU_succ hkx
      have hltk := lenU_take rs (k + 1)
      obtain ⟨x, hx⟩ : ∃ x, x = rs[k] := ⟨_, rfl⟩
      have hBx : Bs x := by rw [hx]; exact HB.out _ (List.getElem_mem hkx)
      rw [← hx] at hSu2 hsucc hlsucc
      obtain ⟨ax, cx, hux, -⟩ := id hSu2
      obtain ⟨nx, hnx⟩ : ∃ n, n = x.length := ⟨_, rfl⟩
      rw [← hnx] at hux
      rw [hux] at hcu hSu2
      have hxl : x.length ≤ 100000 := by have := HL.out; omega
      obtain ⟨okr, hokr⟩ : ∃ o, o = (unlU x).isSome := ⟨_, rfl⟩
      have HUn := hide (unlaid_any _ x wr hSu2 hBx (by omega) okr hokr)
      have HSucc := hide hsucc
      have HLs := hide hlsucc
      have HBx := hide hBx
      have hbnd : its.length * 2 + x.length ≤ 100000 := by have := HLi.out; have := HL.out; omega
      have HLt := hide hltk
      cases hun : unlU x with
      | none =>
        rw [hun] at hokr
        have hokr2 : okr = false := by rw [hokr]; rfl
        clear hokr
        subst hokr2
        have hred : redU rs = none := by
          unfold redU
          have : gatU [] (rs.take (k + 1)) = none := by rw [HSucc.out, hun]
          rw [gatU_none this]
        have hok2 : ok = false := by rw [HOk.out, hred]; rfl
        subst hok2
        have HRed := hide hred
        clear hSu hSu2 hu hux hnx hx hsucc hlsucc hltk hBx hun hred K
        go_wp2_with fail
        refine HUn.out.mono ?_
        rintro ee w2 ⟨a2, m2, c2, rfl, K2, -⟩
        have HK2 := hide (HK.out.trans K2)
        clear HUn K2
        go_wp2_with fail
        go_ret2
        exact ⟨_, rfl, HK2.out, fun z hz => by rw [HRed.out] at hz; cases hz⟩
      | some xs =>
        rw [hun] at hokr
        have hokr2 : okr = true := by rw [hokr]; rfl
        clear hokr
        subst hokr2
        obtain ⟨hxB, hx2⟩ := unlU_bs hBx hun
        have HUn2 := hide hun
        have HxB := hide hxB
        have hxs5 : xs.length ≤ 50000 := by omega
        clear hSu hSu2 hu hux hnx hx hsucc hlsucc hltk hBx hxB K hun
        go_wp2_with fail
        refine HUn.out.mono ?_
        rintro ee w2 ⟨a2, m2, c2, rfl, K2, hrow⟩
        obtain ⟨lx, P2, hlx⟩ := hrow xs HUn2.out
        have hm2 : m2 = xs.length := by have := P2.1.1.len; rw [List.length_map] at this; rw [this, ← hlx]; simp
        have HP2 := hide P2
        have HLx := hide hlx
        have HM2 := hide hm2
        have HSf2 := hide (HSf.out.kept K2 (by simp))
        have HK2 := hide (HK.out.trans K2)
        have HKr := hide K2
        have hm3 : m2 ≤ 50000 := by omega
        clear HUn K2 hrow P2 hlx hm2
        go_wp2_with fail
        obtain ⟨bN, hbN⟩ : ∃ n, n = wr.heap.size := ⟨_, rfl⟩
        have HSz : Hid (bN ≤ w2.heap.size) := hide (by rw [hbN]; exact HKr.out.size)
        rw [← hbN] at HF HP2
        clear hbN HKr
        go_loopw [29] (fun i wr => ∃ t : Nat, t ≤ m2 ∧ i = .int .i64 t ∧ (its ++ xs.take t).Nodup ∧ ∃ F', Sh wr s2 (its ++ xs.take t) F' ∧ Stp F w2 wr F') (fun i _ => m2 - (intOf i).toNat)
        case atStart => exact ⟨0, by omega, rfl, by simpa using HSf2.out.nd, F, by simpa using HSf2.out, Stp.refl _ _⟩
        case round =>
          obtain ⟨t, ht, rfl, hnd, F', Sq, Tq⟩ := hrel
          have HSq := hide Sq
          have HTq := hide Tq
          have HND := hide hnd
          clear Sq hnd
          have hF2 : ∀ i, F i → i < w2.heap.size := fun i hi => Nat.lt_of_lt_of_le (HF.out i hi).2 HSz.out
          have hFq : ∀ i, F' i → w.heap.size ≤ i ∧ i < wr.heap.size := fun i hi => by
            have h0 := HK2.out.size
            have h1 := Tq.size
            rcases Tq.2 i hi with h | h
            · have := HF.out i h; have := hF2 i h; omega
            · omega
          have HFq := hide hFq
          by_cases htl : t < m2
          · have htl' : (t : Int) < (m2 : Int) := by omega
            have htx : t < xs.length := by have := HM2.out; omega
            have htx2 : t < lx.length := by have h := congrArg List.length HLx.out; rw [List.length_map] at h; omega
            obtain ⟨T, hT, kT⟩ := Tq.kp
            have hlow : ∀ i ∈ T, i < bN := fun i hi => (HF.out i (hT i hi)).2
            have P3 := HP2.out.kept kT hlow
            have hL3 : Lists wr (.slice a2 m2 c2) lx := lists_big P3.1 (by have h := congrArg List.length HLx.out; rw [List.length_map] at h; omega)
            obtain ⟨a3, c3, e3, -, hc3⟩ := hL3
            obtain ⟨b3, o3, e4, hcc, hSc, hBc⟩ := hc3 t htx2
            injection e3 with e5 e6 e7
            subst e7
            rw [← e5] at e4
            subst e4
            have ey : lx[t].2 = xs[t] := by simp [← HLx.out]
            rw [ey] at hSc hBc
            obtain ⟨y, hy⟩ : ∃ y, y = xs[t] := ⟨_, rfl⟩
            rw [← hy] at hSc hBc
            have hyl : y.length ≤ 65535 := by rw [hy]; exact (HxB.out _ (List.getElem_mem htx)).2
            have hcv := hSc.conv (P := Tryz.prog) 22 9 5 Tryz.underlying22 Tryz.underlying5 Tryz.underlying9
            have htk : xs.take (t + 1) = xs.take t ++ [y] := by rw [List.take_succ_eq_append_getElem htx, ← hy]
            have HTK := hide htk
            have HY := hide hy
            have hll : (its ++ xs.take t).length < 100000 := by rw [List.length_append, List.length_take]; omega
            have HP := hide (put_any HSq.out (fun i hi => (hFq i hi).2) y hBc hyl hll)
            obtain ⟨ay, cy, hyv, -⟩ := id hSc
            obtain ⟨ny, hny⟩ : ∃ n, n = y.length := ⟨_, rfl⟩
            rw [← hny] at hyv
            rw [hyv] at hcc hcv
            clear e5 e6 hc3 hSc hBc hyv hny hy htk ey hll P3 hT kT hlow
            by_cases hin : y ∈ its ++ xs.take t
            · have hd : decide (y ∈ its ++ xs.take t) = true := decide_eq_true hin
              rw [hd] at HP
              have hred : redU rs = none := by
                unfold redU
                have h5 : gatU [] (rs.take (k + 1)) = none := by
                  rw [HSucc.out, HUn2.out]
                  simp only
                  rw [if_neg]
                  intro hnd2
                  have e : its ++ xs = (its ++ xs.take t) ++ xs.drop t := by rw [List.append_assoc, List.take_append_drop]
                  rw [e] at hnd2
                  refine (List.nodup_append.1 hnd2).2.2 y hin y ?_ rfl
                  rw [List.mem_iff_getElem]
                  exact ⟨0, by simp; omega, by simp [HY.out]⟩
                rw [gatU_none h5]
              have hok2 : ok = false := by rw [HOk.out, hred]; rfl
              subst hok2
              have HRed := hide hred
              clear hred hin hd Tq hFq hF2
              go_wp2_with fail
              refine HP.out.mono ?_
              rintro ee w4 ⟨rfl, F4, S4, T4⟩
              have HK4 : Hid (Kp [] w w4) := (HTq.out.trans T4).base HK2.out (fun i hi => (HF.out i hi).1)
              clear HP S4 T4
              go_wp2_with fail
              go_ret2
              exact ⟨_, rfl, HK4.out, fun z hz => by rw [HRed.out] at hz; cases hz⟩
            · have hd : decide (y ∈ its ++ xs.take t) = false := decide_eq_false hin
              rw [hd, insU_new hin] at HP
              have HIn := hide hin
              clear hin hd Tq hFq hF2
              go_wp2_with fail
              refine HP.out.mono ?_
              rintro ee w4 ⟨rfl, F4, S4, T4⟩
              have HS4 := hide S4
              have HT4 := hide T4
              clear HP S4 T4 hcc hcv
              go_wp2_with fail
              go_roundw
              case rel =>
                refine ⟨t + 1, by omega, by go_num, ?_, F4, ?_, HTq.out.trans HT4.out⟩
                · have := HS4.out.nd; rw [HTK.out, ← List.append_assoc]; exact this
                · rw [HTK.out, ← List.append_assoc]; exact HS4.out
              case measure => simp [intOf]; omega
          · have htm : t = m2 := by omega
            have hnlt : ¬ (t : Int) < (m2 : Int) := by omega
            have e : xs.take t = xs := List.take_of_length_le (by have := HM2.out; omega)
            rw [e] at HSq HND
            have hw1 : IntKind.i64.wrap ((k : Int) + 1) = (k : Int) + 1 := by simp [IntKind.wrap, IntKind.signed, IntKind.bits]; omega
            clear htm e hF2
            go_wp2_with fail
            go_roundw
            case rel =>
              refine ⟨k + 1, by omega, by go_num, its ++ xs, F', ?_, HSq.out, ?_, HFq.out, HTq.out.base HK2.out (fun i hi => (HF.out i hi).1)⟩
              · rw [HSucc.out, HUn2.out]
                simp only
                rw [if_pos HND.out]
              · rw [HLs.out, List.length_append]; have := HLi.out; omega
            case measure => simp [intOf]; omega
    · have hkn : k = N := by omega
      have hnlt : ¬ (k : Int) < (N : Int) := by omega
      have e : rs.take k = rs := List.take_of_length_le (by have := HNr.out; omega)
      rw [e] at HG
      have HZ := hide (ssize_any HSf.out _ rfl)
      obtain ⟨n, hn⟩ : ∃ n, n = its.length := ⟨_, rfl⟩
      rw [← hn] at HZ
      have hr : redU rs = if n ≤ 256 then some its else none := by unfold redU; rw [HG.out, hn]
      have hok3 : ok = decide ((n : Int) ≤ 256) := by
        rw [HOk.out, hr]
        by_cases h : n ≤ 256
        · rw [if_pos h, decide_eq_true (by omega)]; rfl
        · rw [if_neg h, decide_eq_false (by omega)]; rfl
      have HRr := hide hr
      have Hok3 := hide hok3
      clear K hkn e hn hr hok3
      go_wp2_with fail
      refine HZ.out.mono ?_
      rintro ee w2 ⟨rfl, hw⟩
      subst w2
      clear HZ
      go_wp2_with fail
      go_ret2
      refine ⟨_, by rw [Hok3.out]; rfl, HK.out, fun z hz => ?_⟩
      rw [HRr.out] at hz
      split at hz
      · cases hz; exact ⟨s2, F, rfl, HSf.out, HF.out⟩
      · cases hz
section
variable {w0 w : World} {pd pk n at_ : Nat} {dd dk dk' dd' : Dk} {f : Fps}
set_option maxRecDepth 100000 in
set_option maxHeartbeats 4000000 in
theorem uopen_ok (vs : Value) (seed : List Int) (hS : Sl w vs seed) (hsB : Bs seed) (hl : seed.length = 32) (hsk : ∀ k, vs.ownBlock = some k → ¬ f.tot k) (hf : f.Ok w0 w) (hD : Dx w0 w pd dd (f 5)) (dn : dd.down = false) (da : dd.arm ≤ 0) (hK : Dx w0 w pk dk (f 6)) (kd : dk.down = false) (ka : dk.arm ≤ 0) {b : List Int} (hb : dk.bs = b) (hn : n ≤ 16) (ho : opnP b = (keyL n, at_, true)) (hdk : dk.opn = dk') {bd : List Int} (hbd : dd.bs = bd) {rs : List (List Int)} {at2 : Nat} (hop : opnP bd = (rs, at2, true)) (hdd : dd.opn = dd') {its : List (List Int)} (hits : gatU [] rs = some its) (h256 : its.length ≤ 256) (hrB : ∀ r ∈ rs, Bs r) (hlr : lenU rs ≤ 100000) (hrn : rs.length ≤ 200000) :
    Calls Tryz.prog 10 #[.pointer (some ⟨pd, 0, none⟩), .pointer (some ⟨pk, 0, none⟩), vs] w fun e w' => ∃ l, e = .returned (.tuple #[.pointer (some ⟨l, 0, none⟩), .int .i64 0]) ∧ ∃ f', Lg w0 w' l pd pk ⟨its, n, seed, none, dd', dk', rs.length, n⟩ f' ∧ LSt w f w' f' := by
  have HS := hide hS
  obtain ⟨av, cv, hvs, -⟩ := hS
  rw [hl] at hvs
  have HK := hide (bf_open hK kd ka hb hn ho hdk)
  have HD := hide hD
  have HF := hide hf
  have Hdn := hide dn
  have Hda := hide da
  have Hbd := hide hbd
  have HOp := hide hop
  have Hdd := hide hdd
  have HIt := hide hits
  have H256 := hide h256
  have HrB := hide hrB
  have HLr := hide hlr
  have HRn := hide hrn
  have HSb := hide hsB
  have HSl := hide hl
  have HSk := hide hsk
  have HNk := hide hn
  subst hvs
  clear hK kd ka hb hn ho hD hf dn da hbd hop hits h256 hrB hlr hrn hsB hsk hl hdk hdd
  go_enter Tryz.func10, Tryz.ntmps10
  go_wp2_with fail
  refine HK.out.mono ?_
  rintro ee w1 ⟨q, rfl, F6, B1, T1⟩
  have ok1 := HF.out.upd T1
  obtain ⟨T, hT, k1⟩ := T1.kp
  obtain ⟨v, N1, hv⟩ := HD.out.kept k1 ok1.kp (HF.out.apart (a := 6) (b := 5) (by decide) hT)
  have HS1 := hide (HS.out.kept k1 (fun i hi hm => HSk.out i hi ⟨6, hT i hm⟩))
  have HJ := hide (open_ok N1 Hdn.out Hda.out Hbd.out HOp.out Hdd.out)
  have HB1 := hide B1
  have HT1 := hide T1
  have HO1 := hide ok1
  have Hv := hide hv
  clear HK B1 T1 ok1 hT k1 N1 hv
  go_wp2_with fail
  refine HJ.out.mono ?_
  rintro ee w2 ⟨j, v2, al, cl, lv, rfl, J2, hj2, D2, P2, hl2⟩
  have t5 : Stp (f 5) w1 w2 (fun i => grF (f 5) v2 i ∨ i = j) := by
    have t := D2.stp Hv.out J2.nw.rlt
    refine ⟨t.1, fun i hi => ?_⟩
    rcases hi with hi | rfl
    · exact t.2 i hi
    · exact .inr ⟨hj2, J2.jr.lt⟩
  have e5 : f.upd 6 F6 5 = f 5 := upd_ne (by decide)
  have ok2 : ((f.upd 6 F6).upd 5 (fun i => grF (f 5) v2 i ∨ i = j)).Ok w0 w2 := HO1.out.upd (by rw [e5]; exact t5)
  obtain ⟨T2, hT2, k2⟩ := t5.kp
  have e6 : f.upd 6 F6 6 = F6 := upd_eq
  have B2 := HB1.out.kept k2 ok2.kp (by have := HO1.out.apart (a := 5) (b := 6) (by decide) (S := T2) (by rw [e5]; exact hT2); rw [e6] at this; exact this)
  have HS2 : Hid (Sl w2 (.slice av 32 cv) seed) := hide (HS1.out.kept k2 (fun i hi hm => HSk.out i hi ⟨5, hT2 i hm⟩))
  have hml : rs.length = lv.length := by rw [← hl2]; simp
  have HG := hide (gathered_any (.slice al rs.length cl) lv _ hl2 w2 (lists_big P2.parts.rowS (by have := HRn.out; omega)) HrB.out HLr.out HRn.out true (by unfold redU; rw [HIt.out]; simp only; rw [if_pos H256.out]; rfl))
  have HJ2 := hide J2
  have HB2 := hide B2
  have HO2 := hide ok2
  have HT5 := hide t5
  obtain ⟨nr, hnr⟩ : ∃ n, n = rs.length := ⟨_, rfl⟩
  rw [← hnr] at HG ⊢
  have HNR := hide hnr
  clear HJ J2 hj2 D2 P2 hl2 t5 e5 e6 ok2 hT2 k2 B2 hml hnr
  go_wp2_with fail
  refine HG.out.mono ?_
  rintro ee w3 ⟨p3, rfl, K3, hsh⟩
  obtain ⟨s, F4, rfl, S3, hF4⟩ := hsh its (by unfold redU; rw [HIt.out]; simp only; rw [if_pos H256.out])
  have HC := hide (dclone_any (.slice av 32 cv) seed w3 (HS2.out.kept K3 (by simp)) (by have := HSl.out; omega))
  have HK3 := hide K3
  have HS3 := hide S3
  have HF4 := hide hF4
  clear HG K3 hsh S3 hF4
  go_wp2_with fail
  refine HC.out.mono ?_
  rintro ee w4 ⟨a4, m4, c4, rfl, R4, K4⟩
  have HR4 := hide R4
  have HK4 := hide K4
  clear HC R4 K4
  go_wp2_with fail
  go_ret2
  have ka : Kp [] w4 (w4.alloc (.cells #[.func (.func 44) #[.pointer (some ⟨j, 0, none⟩)] #[], .pointer (some ⟨s, 0, none⟩), .pointer (some ⟨q, 0, none⟩), .slice a4 m4 c4, .pointer none] 99)) := (Kp.refl [] w4).alloc _
  have K35 := HK4.out.trans ka
  have K25 := HK3.out.trans K35
  have s0 := HF.out.kp.size
  have s1 := HT1.out.size
  have s2 := HT5.out.size
  have s3 := HK3.out.size
  have s4 := HK4.out.size
  have h5 : ∀ i, (grF (f 5) v2 i ∨ i = j) → (f 5 i ∧ i < w.heap.size) ∨ (w1.heap.size ≤ i ∧ i < w2.heap.size) := fun i hi => (HT5.out.2 i hi).imp (fun h => ⟨h, (HF.out.rng 5 i h).2⟩) id
  have h6 : ∀ i, F6 i → (f 6 i ∧ i < w.heap.size) ∨ (w.heap.size ≤ i ∧ i < w1.heap.size) := fun i hi => (HT1.out.2 i hi).imp (fun h => ⟨h, (HF.out.rng 6 i h).2⟩) id
  have h56 : ∀ i, f 5 i → f 6 i → False := fun i h1 h2 => by have := HF.out.ap 5 6 i h1 h2; omega
  have h2 : ∀ i, (Value.slice a4 m4 c4).ownBlock = some i → w3.heap.size ≤ i ∧ i < w4.heap.size := fun i hi => ⟨HR4.out.own i hi, HR4.out.lt hi⟩
  have h4 := HF4.out
  have hk0 : Kp [] w0 (w4.alloc (.cells #[.func (.func 44) #[.pointer (some ⟨j, 0, none⟩)] #[], .pointer (some ⟨s, 0, none⟩), .pointer (some ⟨q, 0, none⟩), .slice a4 m4 c4, .pointer none] 99)) := HO2.out.kp.trans K25
  let f' : Fps := fun a i => (a = 1 ∧ i = w4.heap.size) ∨ (a = 2 ∧ (Value.slice a4 m4 c4).ownBlock = some i) ∨ (a = 4 ∧ F4 i) ∨ (a = 5 ∧ (grF (f 5) v2 i ∨ i = j)) ∨ (a = 6 ∧ F6 i)
  have hr0 : ∀ i, f 5 i ∨ f 6 i → w0.heap.size ≤ i ∧ i < w.heap.size := fun i hi => hi.elim (HF.out.rng 5 i) (HF.out.rng 6 i)
  have rng : ∀ a i, f' a i → w0.heap.size ≤ i ∧ i < w4.heap.size + 1 := fun a i hi => by
    rcases hi with ⟨-, rfl⟩ | ⟨-, h⟩ | ⟨-, h⟩ | ⟨-, h⟩ | ⟨-, h⟩
    · omega
    · have := h2 i h; omega
    · have := h4 i h; omega
    · rcases h5 i h with ⟨h, _⟩ | h
      · have := hr0 i (.inl h); omega
      · omega
    · rcases h6 i h with ⟨h, _⟩ | h
      · have := hr0 i (.inr h); omega
      · omega
  have pos : ∀ a i, f' a i → (a = 1 ∧ w4.heap.size ≤ i) ∨ (a = 2 ∧ w3.heap.size ≤ i ∧ i < w4.heap.size) ∨ (a = 4 ∧ w2.heap.size ≤ i ∧ i < w3.heap.size) ∨ (a = 5 ∧ (f 5 i ∧ i < w.heap.size ∨ w1.heap.size ≤ i ∧ i < w2.heap.size)) ∨ (a = 6 ∧ (f 6 i ∧ i < w.heap.size ∨ w.heap.size ≤ i ∧ i < w1.heap.size)) := fun a i hi => by
    rcases hi with ⟨ha, rfl⟩ | ⟨ha, h⟩ | ⟨ha, h⟩ | ⟨ha, h⟩ | ⟨ha, h⟩
    · exact .inl ⟨ha, Nat.le_refl _⟩
    · exact .inr (.inl ⟨ha, h2 i h⟩)
    · exact .inr (.inr (.inl ⟨ha, h4 i h⟩))
    · exact .inr (.inr (.inr (.inl ⟨ha, h5 i h⟩)))
    · exact .inr (.inr (.inr (.inr ⟨ha, h6 i h⟩)))
  have ap : f'.Apart := fun a b i ha hb => by
    rcases pos a i ha with ⟨rfl, p⟩ | ⟨rfl, p⟩ | ⟨rfl, p⟩ | ⟨rfl, p | p⟩ | ⟨rfl, p | p⟩ <;> rcases pos b i hb with ⟨rfl, q⟩ | ⟨rfl, q⟩ | ⟨rfl, q⟩ | ⟨rfl, q | q⟩ | ⟨rfl, q | q⟩ <;> first | rfl | (exfalso; omega) | exact (h56 i p.1 q.1).elim | exact (h56 i q.1 p.1).elim
  have e1 : f' 5 = fun i => grF (f 5) v2 i ∨ i = j := funext fun i => by simp [f']
  have e2 : f' 6 = F6 := funext fun i => by simp [f']
  have e3 : f' 4 = F4 := funext fun i => by simp [f']
  refine ⟨w4.heap.size, rfl, f', ⟨j, s, q, .slice a4 m4 c4, .pointer none, ⟨hk0, ap, fun a i hi => by have := rng a i hi; simp; omega⟩, heap_alloc_new w4 _, .inl ⟨rfl, rfl⟩, HR4.out.sl.kept ka (by simp), fun k hk => .inr (.inl ⟨rfl, hk⟩), rfl, ?_, ?_, ?_, HSl.out, HSb.out, H256.out, HNk.out⟩, ?_⟩
  · rw [e3]; exact HS3.out.kept K35 (by simp)
  · rw [e1]
    exact ⟨v2, rs.length, Nat.le_refl _, HJ2.out.kept K25 hk0 (by simp) (by simp), .inr rfl, fun i hi => .inl (grF_fp (Hv.out pd (mem_dfp.2 (.inl rfl))) i hi)⟩
  · rw [e2]; exact HB2.out.kept K25 hk0 (by simp)
  · have t6 : Stp f.tot w w1 (fun i => f 5 i ∨ F6 i) := by
      refine ⟨?_, fun i hi => ?_⟩
      · obtain ⟨T, hT, k⟩ := HT1.out.kp
        exact ⟨T, fun i hi => ⟨6, hT i hi⟩, k⟩
      · rcases hi with hi | hi
        · exact .inl ⟨5, hi⟩
        · exact (HT1.out.2 i hi).imp (fun h => ⟨6, h⟩) id
    have t5 : Stp (fun i => f 5 i ∨ F6 i) w1 w2 (fun i => (grF (f 5) v2 i ∨ i = j) ∨ F6 i) := by
      refine ⟨?_, fun i hi => ?_⟩
      · obtain ⟨T, hT, k⟩ := HT5.out.kp
        exact ⟨T, fun i hi => .inl (hT i hi), k⟩
      · rcases hi with hi | hi
        · exact (HT5.out.2 i hi).imp .inl id
        · exact .inl (.inr hi)
    obtain ⟨tk, tn⟩ := (t6.trans t5).trans (Stp.mid K25)
    refine ⟨tk, fun i ⟨a, ha⟩ => ?_⟩
    have hsz : (w4.alloc (.cells #[.func (.func 44) #[.pointer (some ⟨j, 0, none⟩)] #[], .pointer (some ⟨s, 0, none⟩), .pointer (some ⟨q, 0, none⟩), .slice a4 m4 c4, .pointer none] 99)).heap.size = w4.heap.size + 1 := by simp
    rw [hsz] at tn ⊢
    rcases ha with ⟨-, rfl⟩ | ⟨-, h⟩ | ⟨-, h⟩ | ⟨-, h⟩ | ⟨-, h⟩
    · exact .inr ⟨by omega, by omega⟩
    · have := h2 i h; exact .inr ⟨by omega, by omega⟩
    · have := h4 i h; exact .inr ⟨by omega, by omega⟩
    · exact tn i (.inl h)
    · exact tn i (.inr h)
end
end Go.Proofs.YtillhpgdlmeajaaGreatDoor
