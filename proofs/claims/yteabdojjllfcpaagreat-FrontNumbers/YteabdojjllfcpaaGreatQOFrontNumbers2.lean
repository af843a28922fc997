/-
  Regions that draw their order, whose first operations keep an invariant over frame and world and come ahead of the rest: of each a predicate tells what it yields, and stays true along a relation; one look at each serves every order.
-/
import Derived.Test.YteabdojjllfcpaaGreatQC3
import Derived.Test.YteabdojjllfcpaaGreatQOFrontNumbers1
namespace Go.Proofs.YteabdojjllfcpaaGreat
open Go.RowKit
def Tell.stableG (K : World → World → Prop) (R : Tell) : Prop := ∀ v w w', K w w' → R v w → R v w'
section
variable {K : World → World → Prop} {G : Act → World → Prop} {P : Program} {m : List Oper} {ops : Array Oper} {Q : Exit → Act → World → Prop} {a0 : Act} {Rs : List Tell} {kss : List (List (Tmp × Option Nat))} {n i : Nat} {listed : Array Bool} {a : Act} {w w' : World} {o : Oper} {R : Tell} {v : Value}
theorem knows_ofG (hsub : ∀ (i : Nat) o, m[i]? = some o → ops[i]? = some o) (hinv : InvG G m ops Rs a0 listed a w) (hr : i ∈ Region.ready .any ops listed) (ho : m[i]? = some o) (hlen : m.length = Rs.length) : ∀ ks : List (Tmp × Option Nat), (∀ k ∈ ks, lookOk m i o k = true) → Knows a0 Rs a w ks
  | [], _ => trivial
  | (t, some j) :: ks, h => by
    refine ⟨?_, knows_ofG hsub hinv hr ho hlen ks (fun k hk => h k (by simp [hk]))⟩
    have h1 := h (t, some j) (by simp)
    simp only [lookOk, Bool.and_eq_true, List.contains_iff_mem, beq_iff_eq] at h1
    obtain ⟨hd, hdst⟩ := h1
    obtain ⟨e, he, hb, rfl⟩ := mem_deps.1 hd
    obtain ⟨_, o', ho', hall⟩ := mem_ready.1 hr
    have : o' = o := by rw [hsub i o ho] at ho'; exact (Option.some.inj ho').symm
    subst this
    have hl := hall e he hb
    have hlt : e.on < Rs.length := by
      unfold dstAt at hdst
      cases hx : m[e.on]? with
      | none => simp [hx] at hdst
      | some _ => rw [← hlen]; exact (List.getElem?_eq_some_iff.1 hx).1
    rw [List.getD_eq_getElem?_getD, List.getElem?_eq_getElem hlt, Option.getD_some]
    exact hinv.told e.on t _ hl hdst (List.getElem?_eq_getElem hlt)
  | (t, none) :: ks, h => by
    refine ⟨?_, knows_ofG hsub hinv hr ho hlen ks (fun k hk => h k (by simp [hk]))⟩
    have h1 := h (t, none) (by simp)
    simp only [lookOk, List.all_eq_true, List.mem_range, Bool.or_eq_true, beq_iff_eq, bne_iff_ne, ne_eq] at h1
    refine hinv.rest t (fun k hk hkd => ?_)
    have hnot : listed.getD i false = false := getD_both (mem_ready.1 hr).1
    have hlt : k < m.length := by
      unfold dstAt at hkd
      cases hx : m[k]? with
      | none => simp [hx] at hkd
      | some _ => exact (List.getElem?_eq_some_iff.1 hx).1
    rcases h1 k hlt with (h2 | h2) | h2
    · subst h2; rw [hk] at hnot; cases hnot
    · exact h2 hkd
    · rw [List.getElem?_eq_getElem hlt] at h2
      simp only [Option.map_some, Option.getD_some, List.contains_iff_mem] at h2
      have := hinv.closed hsub k _ (List.getElem?_eq_getElem hlt) hk i h2
      rw [this] at hnot; cases hnot
theorem inv_stepG (hsub : ∀ (i : Nat) o, m[i]? = some o → ops[i]? = some o) (hok : regionOk m kss a0.tmps.size = true) (hst : ∀ R ∈ Rs, Tell.stableG K R) (hinv : InvG G m ops Rs a0 listed a w) (hr : i ∈ Region.ready .any ops listed) (ho : m[i]? = some o) (hR : Rs[i]? = some R)
    (hk : K w w' ∧ G (a.put o.dst v) w') (hv : R v w') : InvG G m ops Rs a0 (listed.setIfInBounds i true) (a.put o.dst v) w' := by
  obtain ⟨ks, d, _, hd, hdn, _, _, _⟩ := regionOk_at hok ho
  have hdi : dstAt m i = some d := by unfold dstAt; simp [ho, hd]
  have hilt : i < m.length := (List.getElem?_eq_some_iff.1 ho).1
  have hget : ∀ j, (listed.setIfInBounds i true).getD j false = true → j = i ∨ listed.getD j false = true := fun j hj => by
    by_cases hij : i = j
    · exact .inl hij.symm
    · rw [getD_set_ne false hij] at hj; exact .inr hj
  have hlt : i < listed.size := by rw [hinv.head.size]; exact (Array.getElem?_eq_some_iff.1 (hsub i o ho)).1
  rw [hd]
  refine ⟨by have := hk.2; rwa [hd] at this, ?_, ?_, ?_, ?_, hinv.head.set hr hilt⟩
  · simpa [Act.put] using hinv.size
  · simpa [Act.put] using hinv.defers
  · intro j dj Rj hj hdj hRj
    by_cases hji : j = i
    · subst hji
      rw [hdi] at hdj; cases hdj
      rw [hR] at hRj; cases hRj
      rw [eval_put_same (by rw [hinv.size]; exact hdn)]
      exact hv
    · have hl := (hget j hj).resolve_left hji
      have hne : d ≠ dj := fun e => hji (dst_inj hok (e ▸ hdj) hdi)
      rw [eval_put_ne hne]
      exact hst Rj (List.mem_of_getElem? hRj) _ _ _ hk.1 (hinv.told j dj Rj hl hdj hRj)
  · intro t ht
    have hne : d ≠ t := fun e => ht i (by simp [hlt]) (e ▸ hdi)
    rw [eval_put_ne hne]
    refine hinv.rest t (fun j hj => ht j ?_)
    exact getD_set_true hj
theorem fin_ofG {F : Act → World → Prop} (hok : regionOk m kss a0.tmps.size = true) (hlen : m.length = Rs.length) (hinv : InvG G m ops Rs a0 listed a w) (hall : ∀ i, i < m.length → listed.getD i false = true) (hf : FinR (fun _ a w => F a w) m Rs a0 w) : F a w := by
  have hlt : ∀ i d, dstAt m i = some d → i < m.length := fun i d hd => by
    unfold dstAt at hd
    cases hx : m[i]? with
    | none => simp [hx] at hd
    | some _ => exact (List.getElem?_eq_some_iff.1 hx).1
  have hre : ∀ i, i < m.length → (Array.replicate m.length true).getD i false = true := fun i hi => by simp [hi]
  refine fin_of (l := m) (Q := fun _ a w => F a w) (listed := Array.replicate m.length true) hok hlen ⟨Kp.refl [] w, hinv.size, hinv.defers, by simp, fun i d R _ hd hR => hinv.told i d R (hall i (hlt i d hd)) hd hR, fun t ht => hinv.rest t (fun i _ hd => ht i (hre i (hlt i t hd)) hd), fun i o ho _ j hj => ?_⟩
    hre m Rs 0 a0 (by simp) (by simp) rfl rfl (fun t ht => (hinv.rest t (fun i _ hd => ht i t (by rw [Nat.zero_add]; exact hd) rfl)).symm) hf
  obtain ⟨ks, d, _, _, _, hdep, _, _⟩ := regionOk_at hok ho
  exact hre j (Nat.lt_trans (hdep j hj) (List.getElem?_eq_some_iff.1 ho).1)
theorem headReadyG (hsub : ∀ (i : Nat) o, m[i]? = some o → ops[i]? = some o) (hok : regionOk m kss n = true) (hinv : HeadInv .any ops m.length listed) (hno : ∀ i, i < m.length → i ∉ Region.ready .any ops listed) : ∀ i, i < m.length → listed.getD i false = true := by
  intro i
  induction i using Nat.strongRecOn with
  | _ i ih =>
    intro hi
    cases hc : listed.getD i false with
    | true => rfl
    | false =>
      have ho : m[i]? = some m[i] := List.getElem?_eq_getElem hi
      obtain ⟨_, _, _, _, _, hdeps, _, _⟩ := regionOk_at hok ho
      refine absurd ?_ (hno i hi)
      rw [mem_ready]
      refine ⟨?_, m[i], hsub i _ ho, fun e he hb => ?_⟩
      · have hls : i < listed.size := by rw [hinv.size]; exact (Array.getElem?_eq_some_iff.1 (hsub i _ ho)).1
        exact getD_in hls hc
      · have hm : e.on ∈ odeps m[i] := mem_deps.2 ⟨e, he, hb, rfl⟩
        exact ih e.on (hdeps _ hm) (Nat.lt_trans (hdeps _ hm) hi)
theorem wpAny_growG (hsub : ∀ (i : Nat) o, m[i]? = some o → ops[i]? = some o) (hok : regionOk m kss a0.tmps.size = true) (hst : ∀ R ∈ Rs, Tell.stableG K R) (hs : StepsG K G P ops a0 Rs m kss Rs)
    (hsink : Region.sinkB .any ops m.length = true) (hchain : Region.chainB .any ops m.length = true) (hn : m.length < ops.size) {g : Nat}
    (hf : ∀ w', FinR (fun _ a w => G a w → ∀ listed, HeadInv .any ops m.length listed → (∀ i, i < m.length → listed.getD i false = true) → wpAny P .any ops Q g listed a w) m Rs a0 w') :
    ∀ (fuel : Nat) (listed : Array Bool) (a : Act) (w : World), InvG G m ops Rs a0 listed a w → ((List.range m.length).filter fun i => !listed.getD i false).length = fuel → wpAny P .any ops Q (fuel + g) listed a w := by
  obtain ⟨hlen, _, hat⟩ := StepsG.at _ hs
  have hdone : ∀ (listed : Array Bool) (a : Act) (w : World), InvG G m ops Rs a0 listed a w → (∀ i, i < m.length → listed.getD i false = true) → wpAny P .any ops Q g listed a w := fun listed a w hinv hall =>
    fin_ofG (F := fun a w => G a w → ∀ listed, HeadInv .any ops m.length listed → (∀ i, i < m.length → listed.getD i false = true) → wpAny P .any ops Q g listed a w) hok hlen hinv hall (hf w) hinv.g listed hinv.head hall
  intro fuel
  induction fuel with
  | zero =>
    intro listed a w hinv hc
    rw [Nat.zero_add]
    refine hdone listed a w hinv (fun i hi => ?_)
    have h1 := List.filter_eq_nil_iff.1 (List.eq_nil_of_length_eq_zero hc) i (List.mem_range.2 hi)
    simpa using h1
  | succ fuel ih =>
    intro listed a w hinv hc
    obtain ⟨k, hk, hkun⟩ : ∃ k, k < m.length ∧ listed.getD k false = false := by
      have hne : ((List.range m.length).filter fun i => !listed.getD i false) ≠ [] := by intro h; rw [h] at hc; simp at hc
      obtain ⟨k, hk⟩ := List.exists_mem_of_ne_nil _ hne
      obtain ⟨h1, h2⟩ := List.mem_filter.1 hk
      exact ⟨k, List.mem_range.1 h1, by simpa using h2⟩
    have hks : k < listed.size := by rw [hinv.head.size]; omega
    have htw := tail_waits hsink hchain hn hinv.head _ k rfl hk (getD_in hks hkun)
    rw [show fuel + 1 + g = (fuel + g) + 1 by omega]
    refine ⟨fun h0 => ?_, fun i hi => ?_⟩
    · have := headReadyG hsub hok hinv.head (fun i _ hr => by rw [h0] at hr; cases hr) k hk
      rw [this] at hkun; cases hkun
    · have him : i < m.length := by
        rcases Nat.lt_or_ge i m.length with h | h
        · exact h
        · exact absurd hi (htw i h)
      obtain ⟨hun, o, ho', hall⟩ := mem_ready.1 hi
      have ho : m[i]? = some m[i] := List.getElem?_eq_getElem him
      have hoo : o = m[i] := by rw [hsub i _ ho] at ho'; exact (Option.some.inj ho').symm
      subst hoo
      obtain ⟨ks, d, hks', hd, hdn, _, hlk, _⟩ := regionOk_at hok ho
      have hR : Rs[i]? = some Rs[i] := List.getElem?_eq_getElem (by omega)
      have hw := hat i m[i] ks Rs[i] ho hks' hR a w hinv.g (knows_ofG hsub hinv hi ho hlen ks hlk)
      have hil : i < listed.size := by rw [hinv.head.size]; omega
      have hcnt : ((List.range m.length).filter fun j => !(listed.setIfInBounds i true).getD j false).length = fuel := by
        have e1 : (List.range m.length).filter (fun j => !(listed.setIfInBounds i true).getD j false) = ((List.range m.length).filter fun j => !listed.getD j false).filter (fun j => j != i) := by
          rw [List.filter_filter]
          refine List.filter_congr (fun j _ => ?_)
          by_cases hij : i = j
          · subst hij; simp [hil]
          · rw [getD_set_ne false hij]
            simp [Ne.symm hij]
        have hmem : i ∈ (List.range m.length).filter (fun j => !listed.getD j false) := List.mem_filter.2 ⟨List.mem_range.2 him, by rw [getD_both hun]; rfl⟩
        have hnd : ((List.range m.length).filter fun j => !listed.getD j false).Nodup := List.Pairwise.filter _ List.nodup_range
        rw [e1, ← hnd.erase_eq_filter, List.length_erase_of_mem hmem, hc]
        rfl
      have next : ∀ v w', (K w w' ∧ G (a.put m[i].dst v) w') → Rs[i] v w' → wpAny P .any ops Q (fuel + g) (listed.setIfInBounds i true) (a.put m[i].dst v) w' := fun v w' hk hv =>
        ih _ _ _ (inv_stepG hsub hok hst hinv hi ho hR hk hv) hcnt
      unfold wantsG at hw
      unfold wpOp
      simp only [ho']
      split
      · rename_i hwn
        rw [if_pos hwn] at hw
        refine .inl ?_
        unfold Oper.wp
        generalize (execOp a.eval m[i]).run P w = r at *
        cases r with
        | ok x w' =>
          cases x <;> simp only [grownG] at hw <;> simp only [Oper.upon]
          case value v => exact next v w' hw.1 hw.2
          case skip => exact next undef w' hw.1 hw.2
          case enter f args =>
            refine hw.mono ?_
            rintro e w'' ⟨v, rfl, h1, h2⟩
            exact next v w'' h1 h2
        | halt x w' => simp only [grownG] at hw
      · rename_i hwn
        rw [if_neg hwn] at hw
        exact next undef w hw.1 hw.2
/-- **The first n operations keep G, the rest comes behind them, one by one.** -/
theorem region_growG_tail {id : Nat} {w : World} {l : List Oper} (n : Nat) (hm : P.follows .mixedOrders = true) (Rs : List Tell) (kss : List (List (Tmp × Option Nat))) (hok : (regionOk (l.take n) kss a0.tmps.size && decide (n < l.length) && Region.sinkB .any l.toArray n && Region.chainB .any l.toArray n && Region.seqB .any l.toArray (l.length - n) n (firsts n l.length)) = true) (hst : ∀ R ∈ Rs, Tell.stableG K R) (hg : G a0 w.drew)
    (hs : StepsG K G P l.toArray a0 Rs (l.take n) kss Rs) (hf : ∀ w', FinR (fun _ a w => G a w → wpList P l.toArray Q (l.drop n) a w) (l.take n) Rs a0 w') : (Code.region id l.toArray true).wp P Q a0 w := by
  simp only [Bool.and_eq_true, decide_eq_true_eq] at hok
  obtain ⟨⟨⟨⟨hok, hn⟩, hsink⟩, hchain⟩, hseq⟩ := hok
  have htl : (l.take n).length = n := by simp; omega
  refine wp_region_any hm ?_
  have hsub : ∀ (i : Nat) o, (l.take n)[i]? = some o → l.toArray[i]? = some o := fun i o h => by
    rw [List.getElem?_take] at h
    split at h
    · rw [List.getElem?_toArray]; exact h
    · cases h
  have H := wpAny_growG (m := l.take n) (ops := l.toArray) (Q := Q) (g := l.length - n) hsub hok hst hs (by rw [htl]; exact hsink) (by rw [htl]; exact hchain) (by rw [htl]; simpa using hn) (fun w' => by
    have key : ∀ (m : List Oper) (rs : List Tell) (b : Act), FinR (fun _ a w => G a w → wpList P l.toArray Q (l.drop n) a w) m rs b w' → FinR (fun _ a w => G a w → ∀ listed, HeadInv .any l.toArray (l.take n).length listed → (∀ i, i < (l.take n).length → listed.getD i false = true) → wpAny P .any l.toArray Q (l.length - n) listed a w) m rs b w' := by
      intro m
      have base : ∀ b : Act, (G b w' → wpList P l.toArray Q (l.drop n) b w') → G b w' → ∀ listed, HeadInv .any l.toArray (l.take n).length listed → (∀ i, i < (l.take n).length → listed.getD i false = true) → wpAny P .any l.toArray Q (l.length - n) listed b w' := by
        intro b hb hgb listed hinv hall
        rw [htl] at hinv hall
        rw [firsts_eq (Nat.le_of_lt hn) hinv (by simp) hall]
        have := wpAny_of_seq (P := P) (md := .any) (Q' := Q) (ops := l.toArray) (l.drop n) n (firsts n l.length) b w' (fun j => by simp [List.getElem?_drop]) (by rw [List.length_drop]; exact hseq) (hb hgb)
        rwa [List.length_drop] at this
      induction m with
      | nil => intro rs b h; cases rs <;> exact base b h
      | cons o m ih =>
        intro rs b h
        cases rs with
        | nil => exact base b h
        | cons R rs => exact fun v hv => ih rs _ (h v hv)
    exact key _ _ _ (hf w')) n (Array.replicate l.toArray.size false) a0 w.drew
    ⟨hg, rfl, rfl, (fun i d R h => by rw [getD_replicate_false] at h; cases h), fun _ _ => rfl, ⟨by simp, fun j oj _ hl => (by rw [getD_replicate_false] at hl; cases hl), fun t _ ht => getD_in (by simpa using ht) (getD_replicate_false _ _)⟩⟩ (by
      rw [htl, List.filter_eq_self.2 (fun i _ => by rw [getD_replicate_false]; rfl)]; simp)
  rw [show n + (l.length - n) = l.toArray.size by simp; omega] at H
  exact H
end
theorem steps_consG {K : World → World → Prop} {G : Act → World → Prop} {P : Program} {ops : Array Oper} {a0 : Act} {Rs : List Tell} {o : Oper} {l : List Oper} {ks : List (Tmp × Option Nat)} {kss : List (List (Tmp × Option Nat))} {R : Tell} {rs : List Tell}
    (h1 : ∀ a w, G a w → Knows a0 Rs a w ks → wantsG K G P ops o a w R) (h2 : StepsG K G P ops a0 Rs l kss rs) : StepsG K G P ops a0 Rs (o :: l) (ks :: kss) (R :: rs) := ⟨h1, h2⟩
/-- an operation that only makes memory, where growth of memory is in K and G is kept. -/
theorem wantsG_of {K : World → World → Prop} {G : Act → World → Prop} {P : Program} {ops : Array Oper} {o : Oper} {a : Act} {w : World} {R : Tell} (hK : ∀ w w', Kp [] w w' → K w w') (hG : ∀ v w', Kp [] w w' → G (a.put o.dst v) w') (h : wants P ops o a w R) : wantsG K G P ops o a w R := by
  unfold wants at h
  unfold wantsG
  split
  · rename_i hw
    rw [if_pos hw] at h
    generalize (execOp a.eval o).run P w = r at *
    cases r with
    | ok x w' =>
      cases x <;> simp only [grown] at h <;> simp only [grownG]
      case value v => exact ⟨⟨hK _ _ h.1, hG v w' h.1⟩, h.2⟩
      case skip => exact ⟨⟨hK _ _ h.1, hG undef w' h.1⟩, h.2⟩
      case enter f args =>
        refine h.mono ?_
        rintro e w'' ⟨v, rfl, h1, h2⟩
        exact ⟨v, rfl, ⟨hK _ _ h1, hG v w'' h1⟩, h2⟩
    | halt x w' => simp only [grown] at h
  · rename_i hw
    rw [if_neg hw] at h
    exact ⟨⟨hK _ _ (Kp.refl _ _), hG undef w (Kp.refl _ _)⟩, h⟩
theorem wantsG_call {K : World → World → Prop} {G : Act → World → Prop} {P : Program} {ops : Array Oper} {o : Oper} {a : Act} {w : World} {R : Tell} (hg : o.guard = none) {f : FuncId} {fn : Func} {xs : Array Operand} {ats : Array TypeId} (ho : o.op = .call { callee := .value (.func f), args := xs, argTypes := ats }) (hf : P.funcs[f]? = some fn) (hn : (fn.name == "runtime.NumGoroutine") = false) (hb : fn.body.isNone = false)
    (h : Calls P f (xs.map a.eval) w fun e w' => ∃ v, e = .returned v ∧ (K w w' ∧ G (a.put o.dst v) w') ∧ R v w') : wantsG K G P ops o a w R := by
  unfold wantsG
  rw [if_pos (by simp [Region.wanted, hg])]
  have e : (execOp a.eval o).run P w = .ok (.enter f (xs.map a.eval)) w := by
    obtain ⟨dst, op, ty, pos, after, guard⟩ := o
    simp only at ho
    subst ho
    rw [execOp_call_go]
    have h1 : fn.name ≠ "runtime.NumGoroutine" := by simpa using hn
    have h2 : ¬ fn.body = none := by intro h2; rw [h2] at hb; cases hb
    simp [callFunc, hf, h1, h2]
  rw [e]
  exact h
end Go.Proofs.YteabdojjllfcpaaGreat
