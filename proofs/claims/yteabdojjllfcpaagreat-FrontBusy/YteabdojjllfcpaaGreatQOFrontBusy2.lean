/-
  Regions that draw their order, whose first operations keep an invariant over frame and world and come ahead of the rest: of each a predicate tells what it yields, and stays true along a relation; one look at each serves every order.
-/
import Derived.Test.YteabdojjllfcpaaGreatQC3
namespace Go.Proofs.YteabdojjllfcpaaGreat
open Go.RowKit
def Tell.stableG (K : World → World → Prop) (R : Tell) : Prop := ∀ v w w', K w w' → R v w → R v w'
section
variable {K : World → World → Prop} {G : Act → World → Prop} {P : Program} {m : List Oper} {ops : Array Oper} {Q : Exit → Act → World → Prop} {a0 : Act} {Rs : List Tell} {kss : List (List (Tmp × Option Nat))} {n i : Nat} {listed : Array Bool} {a : Act} {w w' : World} {o : Oper} {R : Tell} {v : Value}
end
theorem wantsG_call {K : World → World → Prop} {G : Act → World → Prop} {P : Program} {ops : Array Oper} {o : Oper} {a : Act} {w : World} {R : Tell} (hg : o.guard = none) {f : FuncId} {fn : Func} {xs : Array Operand} {ats : Array TypeId} (ho : o.op = .call { callee := .value (.func f), args := xs, argTypes := ats }) (hf : P.funcs[f]? = some fn) (hn : (fn.name == "runtime.NumGoroutine") = false) (hb : fn.body.isNone = false)
    (h : Calls P f (xs.map a.eval) w fun e w' => ∃ v, e = .returned v ∧ (K w w' ∧ G (a.put o.dst v) w') ∧ R v w') : wantsG K G P ops o a w R := by
  unfold wantsG
  rw [if_pos (by simp [Region.wanted, hg])]
  have e : (execOp a.eval o).run P w = .ok (.enter f (xs.map a.eval)) w := by
    obtain ⟨dst, op, ty, pos, after, guard⟩ := o
    simp only at ho
    subst ho
    rw [execOp_call_go]
    have h1 : fn.name ≠ "runtime.NumGoroutine" := by simpa using hn
    have h2 : ¬ fn.body = none := by intro h2; rw [h2] at hb; cases hb
    simp [callFunc, hf, h1, h2]
  rw [e]
  exact h
end Go.Proofs.YteabdojjllfcpaaGreat

/-
  Regions that draw their order, stores among them: an invariant over what was done, frame and world; of each operation that yields something a predicate tells what, and stays true along a relation; one look at each operation serves every order.
-/
namespace Go.Proofs.YteabdojjllfcpaaGreat
open Go.RowKit
def regionOkN (l : List Oper) (kss : List (List (Tmp × Option Nat))) (n : Nat) : Bool :=
  (List.range l.length).all fun i =>
    match l[i]?, kss[i]? with
    | some o, some ks => (odeps o).all (· < i) && ks.all (lookOk l i o) && (match o.dst with | some d => decide (d < n) && (List.range i).all (fun k => dstAt l k != some d) | none => true)
    | _, _ => false
section
variable {K : World → World → Prop} {G : Array Bool → Act → World → Prop} {P : Program} {l : List Oper} {Q : Exit → Act → World → Prop} {a0 : Act} {Rs : List Tell} {kss : List (List (Tmp × Option Nat))} {n i : Nat} {listed : Array Bool} {a : Act} {w w' : World} {o : Oper} {R : Tell} {v : Value}
theorem regionOkN_at (h : regionOkN l kss n = true) {i : Nat} {o : Oper} (ho : l[i]? = some o) : ∃ ks, kss[i]? = some ks ∧ (∀ j ∈ odeps o, j < i) ∧ (∀ k ∈ ks, lookOk l i o k = true) ∧ ∀ d, o.dst = some d → d < n ∧ ∀ k, k < i → dstAt l k ≠ some d := by
  have hi : i < l.length := (List.getElem?_eq_some_iff.1 ho).1
  have h1 := List.all_eq_true.1 h i (List.mem_range.2 hi)
  simp only [ho] at h1
  cases hk : kss[i]? with
  | none => simp [hk] at h1
  | some ks =>
    simp only [hk, Bool.and_eq_true, List.all_eq_true, decide_eq_true_eq] at h1
    obtain ⟨⟨h2, h3⟩, h4⟩ := h1
    refine ⟨ks, rfl, h2, h3, fun d hd => ?_⟩
    simp only [hd, Bool.and_eq_true, List.all_eq_true, decide_eq_true_eq, List.mem_range, bne_iff_ne, ne_eq] at h4
    exact h4
theorem dst_injN (h : regionOkN l kss n = true) {i j : Nat} {d : Tmp} (hi : dstAt l i = some d) (hj : dstAt l j = some d) : i = j := by
  have key : ∀ i j, i < j → dstAt l i = some d → dstAt l j = some d → False := by
    intro i j hij hi hj
    unfold dstAt at hj
    cases ho : l[j]? with
    | none => simp [ho] at hj
    | some o =>
      simp only [ho, Option.bind_some] at hj
      obtain ⟨ks, _, _, _, h6⟩ := regionOkN_at h ho
      exact (h6 d hj).2 i hij hi
  rcases Nat.lt_trichotomy i j with h1 | h1 | h1
  · exact (key i j h1 hi hj).elim
  · exact h1
  · exact (key j i h1 hj hi).elim
structure InvL (G : Array Bool → Act → World → Prop) (l : List Oper) (Rs : List Tell) (a0 : Act) (listed : Array Bool) (a : Act) (w : World) : Prop where
  g : G listed a w
  size : a.tmps.size = a0.tmps.size
  defers : a.defers = a0.defers
  ls : listed.size = l.length
  told : ∀ i d R, listed.getD i false = true → dstAt l i = some d → Rs[i]? = some R → R (a.eval (.tmp d)) w
  rest : ∀ t, (∀ i, listed.getD i false = true → dstAt l i ≠ some t) → a.eval (.tmp t) = a0.eval (.tmp t)
  closed : ClosedL l listed
theorem knows_ofL (hinv : InvL G l Rs a0 listed a w) (hnot : listed.getD i false = false) (hdeps : ∀ j ∈ odeps o, listed.getD j false = true) (hlen : l.length = Rs.length) : ∀ ks : List (Tmp × Option Nat), (∀ k ∈ ks, lookOk l i o k = true) → Knows a0 Rs a w ks
  | [], _ => trivial
  | (t, some j) :: ks, h => by
    refine ⟨?_, knows_ofL hinv hnot hdeps hlen ks (fun k hk => h k (by simp [hk]))⟩
    have h1 := h (t, some j) (by simp)
    simp only [lookOk, Bool.and_eq_true, List.contains_iff_mem, beq_iff_eq] at h1
    obtain ⟨hd, hdst⟩ := h1
    have hl := hdeps j hd
    have hlt : j < Rs.length := by
      unfold dstAt at hdst
      cases hx : l[j]? with
      | none => simp [hx] at hdst
      | some _ => rw [← hlen]; exact (List.getElem?_eq_some_iff.1 hx).1
    rw [List.getD_eq_getElem?_getD, List.getElem?_eq_getElem hlt, Option.getD_some]
    exact hinv.told j t _ hl hdst (List.getElem?_eq_getElem hlt)
  | (t, none) :: ks, h => by
    refine ⟨?_, knows_ofL hinv hnot hdeps hlen ks (fun k hk => h k (by simp [hk]))⟩
    have h1 := h (t, none) (by simp)
    simp only [lookOk, List.all_eq_true, List.mem_range, Bool.or_eq_true, beq_iff_eq, bne_iff_ne, ne_eq] at h1
    refine hinv.rest t (fun k hk hkd => ?_)
    have hlt : k < l.length := by
      unfold dstAt at hkd
      cases hx : l[k]? with
      | none => simp [hx] at hkd
      | some _ => exact (List.getElem?_eq_some_iff.1 hx).1
    rcases h1 k hlt with (h2 | h2) | h2
    · subst h2; rw [hk] at hnot; cases hnot
    · exact h2 hkd
    · rw [List.getElem?_eq_getElem hlt] at h2
      simp only [Option.map_some, Option.getD_some, List.contains_iff_mem] at h2
      have := hinv.closed k _ (List.getElem?_eq_getElem hlt) hk i h2
      rw [this] at hnot; cases hnot
theorem put_none (a : Act) (v : Value) : a.put none v = a := rfl
theorem fin_ofL (hok : regionOkN l kss a0.tmps.size = true) (hN : ∀ k R, Rs[k]? = some R → dstAt l k = none → ∀ w, R undef w) (hlen : l.length = Rs.length) (hinv : InvL G l Rs a0 listed a w) (hall : ∀ i, i < l.length → listed.getD i false = true) :
    ∀ (m : List Oper) (rs : List Tell) (k : Nat) (b : Act), (∀ j, m[j]? = l[k + j]?) → (∀ j, rs[j]? = Rs[k + j]?) → b.tmps.size = a0.tmps.size → b.defers = a0.defers →
    (∀ t, (∀ j d, dstAt l (k + j) = some d → d ≠ t) → b.eval (.tmp t) = a.eval (.tmp t)) → FinR Q m rs b w → Q .normal a w
  | [], rs, k, b, hm, hrs, hbs, hbd, heq, h => by
    have hb : b = a := by
      cases b with
      | mk bt bd =>
        cases a with
        | mk at_ ad =>
          have e1 : bt.size = at_.size := hbs.trans hinv.size.symm
          have e2 : bd = ad := hbd.trans hinv.defers.symm
          subst e2
          congr 1
          refine Array.ext e1 (fun i h1 h2 => ?_)
          have := heq i (fun j d hd => by
            unfold dstAt at hd
            rw [← hm j] at hd
            simp at hd)
          simpa [Act.eval, h1, h2] using this
    subst hb
    cases rs <;> exact h
  | o :: m, [], k, b, hm, hrs, _, _, _, _ => by
    have h1 := hm 0
    have h2 := hrs 0
    simp only [List.getElem?_cons_zero, Nat.add_zero, List.getElem?_nil] at h1 h2
    have h3 : k < l.length := (List.getElem?_eq_some_iff.1 h1.symm).1
    have h4 := List.getElem?_eq_none_iff.1 h2.symm
    omega
  | o :: m, R :: rs, k, b, hm, hrs, hbs, hbd, heq, h => by
    have h1 : l[k]? = some o := by simpa using (hm 0).symm
    have h2 : Rs[k]? = some R := by simpa using (hrs 0).symm
    have h3 : k < l.length := (List.getElem?_eq_some_iff.1 h1).1
    obtain ⟨ks, _, _, _, hdd⟩ := regionOkN_at hok h1
    have s1 : ∀ j, m[j]? = l[k + 1 + j]? := fun j => by have := hm (j + 1); simpa [Nat.add_assoc, Nat.add_comm 1 j] using this
    have s2 : ∀ j, rs[j]? = Rs[k + 1 + j]? := fun j => by have := hrs (j + 1); simpa [Nat.add_assoc, Nat.add_comm 1 j] using this
    cases hd : o.dst with
    | none =>
      have hdk : dstAt l k = none := by unfold dstAt; simp [h1, hd]
      have h' := h undef (hN k R h2 hdk w)
      rw [hd, put_none] at h'
      refine fin_ofL hok hN hlen hinv hall m rs (k + 1) b s1 s2 hbs hbd (fun t ht => heq t (fun j d hj => ?_)) h'
      cases j with
      | zero => rw [Nat.add_zero, hdk] at hj; cases hj
      | succ j => exact ht j d (by rw [← hj]; congr 1; omega)
    | some d =>
      have hdn := (hdd d hd).1
      have hdk : dstAt l k = some d := by unfold dstAt; simp [h1, hd]
      have hR := hinv.told k d R (hall k h3) hdk h2
      refine fin_ofL hok hN hlen hinv hall m rs (k + 1) (b.put o.dst (a.eval (.tmp d))) s1 s2 ?_ ?_ ?_ (h _ hR)
      · rw [hd]; simpa [Act.put] using hbs
      · rw [hd]; simpa [Act.put] using hbd
      · intro t ht
        rw [hd]
        by_cases htd : d = t
        · subst htd
          exact eval_put_same (by rw [hbs]; exact hdn)
        · rw [eval_put_ne htd]
          refine heq t (fun j d' hj => ?_)
          cases j with
          | zero => rw [Nat.add_zero, hdk] at hj; cases hj; exact htd
          | succ j => exact ht j d' (by rw [← hj]; congr 1; omega)
theorem inv_stepL (hok : regionOkN l kss a0.tmps.size = true) (hst : ∀ R ∈ Rs, Tell.stableG K R) (hinv : InvL G l Rs a0 listed a w) (hdeps : ∀ j ∈ odeps o, listed.getD j false = true) (ho : l[i]? = some o) (hR : Rs[i]? = some R)
    (hk : K w w' ∧ G (listed.setIfInBounds i true) (a.put o.dst v) w') (hv : R v w') : InvL G l Rs a0 (listed.setIfInBounds i true) (a.put o.dst v) w' := by
  obtain ⟨ks, _, _, _, hdd⟩ := regionOkN_at hok ho
  have hget : ∀ j, (listed.setIfInBounds i true).getD j false = true → j = i ∨ listed.getD j false = true := fun j hj => by
    by_cases hij : i = j
    · exact .inl hij.symm
    · rw [getD_set_ne false hij] at hj; exact .inr hj
  have hcl : ClosedL l (listed.setIfInBounds i true) := by
    intro j oj hoj hj k hk'
    rcases hget j hj with h1 | h1
    · subst h1
      rw [ho] at hoj; cases hoj
      exact getD_set_true (hdeps k hk')
    · exact getD_set_true (hinv.closed j oj hoj h1 k hk')
  have hlt : i < listed.size := by rw [hinv.ls]; exact (List.getElem?_eq_some_iff.1 ho).1
  cases hd : o.dst with
  | none =>
    have hdi : dstAt l i = none := by unfold dstAt; simp [ho, hd]
    have hg := hk.2
    rw [hd, put_none] at hg
    rw [put_none]
    refine ⟨hg, hinv.size, hinv.defers, by simpa using hinv.ls, ?_, ?_, hcl⟩
    · intro j dj Rj hj hdj hRj
      rcases hget j hj with h1 | h1
      · subst h1; rw [hdi] at hdj; cases hdj
      · exact hst Rj (List.mem_of_getElem? hRj) _ _ _ hk.1 (hinv.told j dj Rj h1 hdj hRj)
    · intro t ht
      exact hinv.rest t (fun j hj => ht j (getD_set_true hj))
  | some d =>
    have hdn := (hdd d hd).1
    have hdi : dstAt l i = some d := by unfold dstAt; simp [ho, hd]
    have hg := hk.2
    rw [hd] at hg
    refine ⟨hg, by simpa [Act.put] using hinv.size, by simpa [Act.put] using hinv.defers, by simpa using hinv.ls, ?_, ?_, hcl⟩
    · intro j dj Rj hj hdj hRj
      by_cases hji : j = i
      · subst hji
        rw [hdi] at hdj; cases hdj
        rw [hR] at hRj; cases hRj
        rw [eval_put_same (by rw [hinv.size]; exact hdn)]
        exact hv
      · have hl := (hget j hj).resolve_left hji
        have hne : d ≠ dj := fun e => hji (dst_injN hok (e ▸ hdj) hdi)
        rw [eval_put_ne hne]
        exact hst Rj (List.mem_of_getElem? hRj) _ _ _ hk.1 (hinv.told j dj Rj hl hdj hRj)
    · intro t ht
      have hne : d ≠ t := fun e => ht i (by simp [hlt]) (e ▸ hdi)
      rw [eval_put_ne hne]
      exact hinv.rest t (fun j hj => ht j (getD_set_true hj))
theorem ready_facts (hr : i ∈ Region.ready .any l.toArray listed) (ho : l[i]? = some o) : listed.getD i false = false ∧ ∀ j ∈ odeps o, listed.getD j false = true := by
  obtain ⟨h0, o', ho', hall⟩ := mem_ready.1 hr
  have : o' = o := by have := ho'; rw [List.getElem?_toArray, ho] at this; exact (Option.some.inj this).symm
  subst this
  refine ⟨getD_both h0, fun j hj => ?_⟩
  obtain ⟨e, he, hb, rfl⟩ := mem_deps.1 hj
  exact hall e he hb
theorem all_listedL (hok : regionOkN l kss n = true) (hinv : InvL G l Rs a0 listed a w) (hr : Region.ready .any l.toArray listed = []) : ∀ i, i < l.length → listed.getD i false = true := by
  intro i
  induction i using Nat.strongRecOn with
  | _ i ih =>
    intro hi
    cases hc : listed.getD i false with
    | true => rfl
    | false =>
      have ho : l[i]? = some l[i] := List.getElem?_eq_getElem hi
      obtain ⟨_, _, hdeps, _, _⟩ := regionOkN_at hok ho
      have : i ∈ Region.ready .any l.toArray listed := by
        rw [mem_ready]
        refine ⟨?_, l[i], by rw [List.getElem?_toArray]; exact ho, fun e he hb => ?_⟩
        · have hls : i < listed.size := by rw [hinv.ls]; exact hi
          simp [hls] at hc ⊢; exact hc
        · have hm : e.on ∈ odeps l[i] := mem_deps.2 ⟨e, he, hb, rfl⟩
          exact ih e.on (hdeps _ hm) (Nat.lt_trans (hdeps _ hm) hi)
      rw [hr] at this
      cases this
/-- **One look at each operation serves every order.** -/
theorem region_growL {id : Nat} {w : World} (hm : P.follows .mixedOrders = true) (Rs : List Tell) (kss : List (List (Tmp × Option Nat))) (hok : regionOkN l kss a0.tmps.size = true) (hN : ∀ k R, Rs[k]? = some R → dstAt l k = none → ∀ w, R undef w) (hst : ∀ R ∈ Rs, Tell.stableG K R) (hg : G (Array.replicate l.length false) a0 w.drew)
    (hs : StepsL K G P l a0 Rs 0 l kss Rs) (hf : ∀ w', FinR (fun _ a w => (∀ listed, (∀ i, i < l.length → listed.getD i false = true) → G listed a w → Q .normal a w)) l Rs a0 w') : (Code.region id l.toArray true).wp P Q a0 w := by
  refine wp_region_any hm ?_
  obtain ⟨hlen, _, hat⟩ := StepsL.at hs
  have hend : ∀ (listed : Array Bool) (a : Act) (w : World), InvL G l Rs a0 listed a w → Region.ready .any l.toArray listed = [] → Q .normal a w := fun listed a w hinv hr =>
    fin_ofL (Q := fun _ a w => (∀ listed, (∀ i, i < l.length → listed.getD i false = true) → G listed a w → Q .normal a w)) hok hN hlen hinv (all_listedL hok hinv hr) l Rs 0 a0 (by simp) (by simp) rfl rfl (fun t ht => (hinv.rest t (fun i _ hd => ht i t (by rw [Nat.zero_add]; exact hd) rfl)).symm) (hf w) listed (all_listedL hok hinv hr) hinv.g
  have main : ∀ (fuel : Nat) (listed : Array Bool) (a : Act) (w : World), InvL G l Rs a0 listed a w → listed.toList.count false = fuel → wpAny P .any l.toArray Q fuel listed a w := by
    intro fuel
    induction fuel with
    | zero =>
      intro listed a w hinv hc
      have hr : Region.ready .any l.toArray listed = [] := by
        refine List.eq_nil_iff_forall_not_mem.2 (fun j hj => ?_)
        have h0 := (mem_ready.1 hj).1
        have h1 := List.count_eq_zero.1 hc
        rcases Nat.lt_or_ge j listed.size with h' | h'
        · simp [h'] at h0
          exact h1 (by rw [← h0]; simp)
        · simp [Array.getElem?_eq_none h'] at h0
      exact ⟨hr, hend listed a w hinv hr⟩
    | succ fuel ih =>
      intro listed a w hinv hc
      refine ⟨hend listed a w hinv, fun i hi => ?_⟩
      obtain ⟨hun, o, ho', hall⟩ := mem_ready.1 hi
      have ho : l[i]? = some o := by rw [← List.getElem?_toArray]; exact ho'
      have hilt : i < l.length := (List.getElem?_eq_some_iff.1 ho).1
      obtain ⟨ks, hks, _, hlk, _⟩ := regionOkN_at hok ho
      obtain ⟨hnot, hdeps⟩ := ready_facts hi ho
      have hls : i < listed.size := by rw [hinv.ls]; exact hilt
      have hR : Rs[i]? = some Rs[i] := List.getElem?_eq_getElem (by omega)
      have hw := hat i o ks Rs[i] ho hks hR listed a w (by rw [Nat.zero_add]; exact hnot) hdeps hinv.closed (by rw [Nat.zero_add]; exact hls) hinv.g (knows_ofL hinv hnot hdeps hlen ks hlk)
      rw [Nat.zero_add] at hw
      have hcnt : (listed.setIfInBounds i true).toList.count false = fuel := by
        have hg : listed.toList[i]'(by simpa using hls) = false := by simpa [hls] using hun
        rw [Array.toList_setIfInBounds, List.count_set (by simpa using hls), hg, hc]
        simp
      have next : ∀ v w', (K w w' ∧ G (listed.setIfInBounds i true) (a.put o.dst v) w') → Rs[i] v w' → wpAny P .any l.toArray Q fuel (listed.setIfInBounds i true) (a.put o.dst v) w' := fun v w' hk hv =>
        ih _ _ _ (inv_stepL hok hst hinv hdeps ho hR hk hv) hcnt
      unfold wantsG at hw
      unfold wpOp
      simp only [ho']
      split
      · rename_i hwn
        rw [if_pos hwn] at hw
        refine .inl ?_
        unfold Oper.wp
        generalize (execOp a.eval o).run P w = r at *
        cases r with
        | ok x w' =>
          cases x <;> simp only [grownG] at hw <;> simp only [Oper.upon]
          case value v => exact next v w' hw.1 hw.2
          case skip => exact next undef w' hw.1 hw.2
          case enter f args =>
            refine hw.mono ?_
            rintro e w'' ⟨v, rfl, h1, h2⟩
            exact next v w'' h1 h2
        | halt x w' => simp only [grownG] at hw
      · rename_i hwn
        rw [if_neg hwn] at hw
        exact next undef w hw.1 hw.2
  refine main _ _ _ _ ⟨by simpa using hg, rfl, rfl, by simp, fun i d R h => ?_, fun _ _ => rfl, fun i o _ h => ?_⟩ ?_
  · exfalso; revert h; simp only [Array.getD_eq_getD_getElem?, Array.getElem?_replicate]; split <;> simp
  · exfalso; revert h; simp only [Array.getD_eq_getD_getElem?, Array.getElem?_replicate]; split <;> simp
  · simp
end
theorem steps_consL {K : World → World → Prop} {G : Array Bool → Act → World → Prop} {P : Program} {l0 : List Oper} {a0 : Act} {Rs : List Tell} {k : Nat} {o : Oper} {l : List Oper} {ks : List (Tmp × Option Nat)} {kss : List (List (Tmp × Option Nat))} {R : Tell} {rs : List Tell}
    (h1 : ∀ listed a w, listed.getD k false = false → (∀ j ∈ odeps o, listed.getD j false = true) → ClosedL l0 listed → k < listed.size → G listed a w → Knows a0 Rs a w ks → wantsG K (G (listed.setIfInBounds k true)) P l0.toArray o a w R) (h2 : StepsL K G P l0 a0 Rs (k + 1) l kss rs) : StepsL K G P l0 a0 Rs k (o :: l) (ks :: kss) (R :: rs) := ⟨h1, h2⟩
end Go.Proofs.YteabdojjllfcpaaGreat

/-
  Small words for regions that draw their order and store (region_growL), where every slot holds a value that is known.
-/
namespace Go.Proofs.YteabdojjllfcpaaGreat
open Go.RowKit
section
variable {w w' : World} {g : Nat} {listed : Array Bool} {a : Act} {l0 : List Oper}
theorem getD_set_selfM (k : Nat) (hk : k < listed.size) : (listed.setIfInBounds k true).getD k false = true := by simp [hk]
theorem wantsG_of1M {K : World → World → Prop} {G : Act → World → Prop} {ops : Array Oper} {o : Oper} {R : Tell} (hK : ∀ w', Kp [] w w' → K w w') (hG : ∀ v w', Kp [] w w' → G (a.put o.dst v) w') (h : wants Tryz.prog ops o a w R) : wantsG K G Tryz.prog ops o a w R := by
  unfold wants at h
  unfold wantsG
  split
  · rename_i hw
    rw [if_pos hw] at h
    generalize (execOp a.eval o).run Tryz.prog w = r at *
    cases r with
    | ok x w' =>
      cases x <;> simp only [grown] at h <;> simp only [grownG]
      case value v => exact ⟨⟨hK _ h.1, hG v w' h.1⟩, h.2⟩
      case skip => exact ⟨⟨hK _ h.1, hG undef w' h.1⟩, h.2⟩
      case enter f args =>
        refine h.mono ?_
        rintro e w'' ⟨v, rfl, h1, h2⟩
        exact ⟨v, rfl, ⟨hK _ h1, hG v w'' h1⟩, h2⟩
    | halt x w' => simp only [grown] at h
  · rename_i hw
    rw [if_neg hw] at h
    exact ⟨⟨hK _ (Kp.refl _ _), hG undef w (Kp.refl _ _)⟩, h⟩
/-- no relation is asked: values that are known. -/
def KT : World → World → Prop := fun _ _ => True
theorem stableG_isM (c : Value) : Tell.stableG KT (Is c) := fun _ _ _ _ h => h
end
end Go.Proofs.YteabdojjllfcpaaGreat

/-
  Regions that draw their order: what stands ahead of what.
-/
namespace Go.Proofs.YteabdojjllfcpaaGreat
open Go.RowKit
open Go.Proofs
set_option linter.unusedVariables false
/-- whatever it is. -/
def AnyT : Tell := fun _ _ => True
theorem stableK_any {K : World → World → Prop} : Tell.stableG K AnyT := fun _ _ _ _ _ => trivial
/-- j stands ahead of i. -/
def ancB (l : List Oper) : Nat → Nat → Nat → Bool
  | 0, _, _ => false
  | f + 1, i, j => match l[i]? with
    | none => false
    | some o => (odeps o).any fun k => k == j || ancB l f k j
theorem anc_closed {l : List Oper} {listed : Array Bool} (hcl : ClosedL l listed) : ∀ (f i j : Nat), ancB l f i j = true → listed.getD i false = true → listed.getD j false = true
  | 0, _, _, h, _ => by cases h
  | f + 1, i, j, h, hi => by
    unfold ancB at h
    cases ho : l[i]? with
    | none => rw [ho] at h; cases h
    | some o =>
      rw [ho] at h
      obtain ⟨k, hk, h1⟩ := List.any_eq_true.1 h
      have hk' := hcl i o ho hi k hk
      rcases (Bool.or_eq_true _ _).mp h1 with h2 | h2
      · rw [← of_decide_eq_true (by simpa using h2 : decide (k = j) = true)]; exact hk'
      · exact anc_closed hcl f k j h2 hk'
theorem anc_listed {l : List Oper} {listed : Array Bool} (hcl : ClosedL l listed) {o : Oper} (f i j : Nat) (ho : l[i]? = some o) (hdep : ∀ k ∈ odeps o, listed.getD k false = true) (h : ancB l (f + 1) i j = true) : listed.getD j false = true := by
  unfold ancB at h
  rw [ho] at h
  obtain ⟨k, hk, h1⟩ := List.any_eq_true.1 h
  have hk' := hdep k hk
  rcases (Bool.or_eq_true _ _).mp h1 with h2 | h2
  · rw [← of_decide_eq_true (by simpa using h2 : decide (k = j) = true)]; exact hk'
  · exact anc_closed hcl f k j h2 hk'
theorem anc_not {l : List Oper} {listed : Array Bool} (hcl : ClosedL l listed) (f i j : Nat) (h : ancB l f i j = true) (hj : listed.getD j false = false) : listed.getD i false = false := by
  cases hi : listed.getD i false with
  | false => rfl
  | true => rw [anc_closed hcl f i j h hi] at hj; cases hj
end Go.Proofs.YteabdojjllfcpaaGreat
