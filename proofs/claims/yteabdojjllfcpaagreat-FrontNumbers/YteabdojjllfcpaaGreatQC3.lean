/-
  Regions that draw their order, whose first operations only make memory and all come ahead of the rest: one look at each of the first serves every order; what is left is walked behind them.
-/
import Derived.StillTail
import Derived.Test.YteabdojjllfcpaaGreatQC2
namespace Go.Proofs.YteabdojjllfcpaaGreat
open Go.RowKit
section
variable {P : Program} {m : List Oper} {ops : Array Oper} {Q : Exit → Act → World → Prop} {a0 : Act} {w0 : World} {Rs : List Tell} {kss : List (List (Tmp × Option Nat))} {n i : Nat} {listed : Array Bool} {a : Act} {w w' : World} {o : Oper} {R : Tell} {v : Value}
/-- The head m of the operations ops: what is listed of it so far. -/
structure InvT (m : List Oper) (ops : Array Oper) (Rs : List Tell) (a0 : Act) (w0 : World) (listed : Array Bool) (a : Act) (w : World) : Prop where
  kp : Kp [] w0 w
  size : a.tmps.size = a0.tmps.size
  defers : a.defers = a0.defers
  told : ∀ i d R, listed.getD i false = true → dstAt m i = some d → Rs[i]? = some R → R (a.eval (.tmp d)) w
  rest : ∀ t, (∀ i, listed.getD i false = true → dstAt m i ≠ some t) → a.eval (.tmp t) = a0.eval (.tmp t)
  head : HeadInv .any ops m.length listed
theorem InvT.closed (hsub : ∀ (i : Nat) o, m[i]? = some o → ops[i]? = some o) (hinv : InvT m ops Rs a0 w0 listed a w) : ∀ (i : Nat) o, m[i]? = some o → listed.getD i false = true → ∀ j ∈ odeps o, listed.getD j false = true := by
  intro i o ho hl j hj
  obtain ⟨e, he, hb, rfl⟩ := mem_deps.1 hj
  exact hinv.head.closed i o (hsub i o ho) hl e he hb
theorem knows_ofT (hsub : ∀ (i : Nat) o, m[i]? = some o → ops[i]? = some o) (hinv : InvT m ops Rs a0 w0 listed a w) (hr : i ∈ Region.ready .any ops listed) (ho : m[i]? = some o) (hlen : m.length = Rs.length) : ∀ ks : List (Tmp × Option Nat), (∀ k ∈ ks, lookOk m i o k = true) → Knows a0 Rs a w ks
  | [], _ => trivial
  | (t, some j) :: ks, h => by
    refine ⟨?_, knows_ofT hsub hinv hr ho hlen ks (fun k hk => h k (by simp [hk]))⟩
    have h1 := h (t, some j) (by simp)
    simp only [lookOk, Bool.and_eq_true, List.contains_iff_mem, beq_iff_eq] at h1
    obtain ⟨hd, hdst⟩ := h1
    obtain ⟨e, he, hb, rfl⟩ := mem_deps.1 hd
    obtain ⟨_, o', ho', hall⟩ := mem_ready.1 hr
    have : o' = o := by rw [hsub i o ho] at ho'; exact (Option.some.inj ho').symm
    subst this
    have hl := hall e he hb
    have hlt : e.on < Rs.length := by
      unfold dstAt at hdst
      cases hx : m[e.on]? with
      | none => simp [hx] at hdst
      | some _ => rw [← hlen]; exact (List.getElem?_eq_some_iff.1 hx).1
    rw [List.getD_eq_getElem?_getD, List.getElem?_eq_getElem hlt, Option.getD_some]
    exact hinv.told e.on t _ hl hdst (List.getElem?_eq_getElem hlt)
  | (t, none) :: ks, h => by
    refine ⟨?_, knows_ofT hsub hinv hr ho hlen ks (fun k hk => h k (by simp [hk]))⟩
    have h1 := h (t, none) (by simp)
    simp only [lookOk, List.all_eq_true, List.mem_range, Bool.or_eq_true, beq_iff_eq, bne_iff_ne, ne_eq] at h1
    refine hinv.rest t (fun k hk hkd => ?_)
    have hnot : listed.getD i false = false := getD_both (mem_ready.1 hr).1
    have hlt : k < m.length := by
      unfold dstAt at hkd
      cases hx : m[k]? with
      | none => simp [hx] at hkd
      | some _ => exact (List.getElem?_eq_some_iff.1 hx).1
    rcases h1 k hlt with (h2 | h2) | h2
    · subst h2; rw [hk] at hnot; cases hnot
    · exact h2 hkd
    · rw [List.getElem?_eq_getElem hlt] at h2
      simp only [Option.map_some, Option.getD_some, List.contains_iff_mem] at h2
      have := hinv.closed hsub k _ (List.getElem?_eq_getElem hlt) hk i h2
      rw [this] at hnot; cases hnot
theorem inv_stepT (hsub : ∀ (i : Nat) o, m[i]? = some o → ops[i]? = some o) (hok : regionOk m kss a0.tmps.size = true) (hst : ∀ R ∈ Rs, Tell.stable R) (hinv : InvT m ops Rs a0 w0 listed a w) (hr : i ∈ Region.ready .any ops listed) (ho : m[i]? = some o) (hR : Rs[i]? = some R)
    (hk : Kp [] w w') (hv : R v w') : InvT m ops Rs a0 w0 (listed.setIfInBounds i true) (a.put o.dst v) w' := by
  obtain ⟨ks, d, _, hd, hdn, _, _, _⟩ := regionOk_at hok ho
  have hdi : dstAt m i = some d := by unfold dstAt; simp [ho, hd]
  have hilt : i < m.length := (List.getElem?_eq_some_iff.1 ho).1
  have hget : ∀ j, (listed.setIfInBounds i true).getD j false = true → j = i ∨ listed.getD j false = true := fun j hj => by
    by_cases hij : i = j
    · exact .inl hij.symm
    · rw [getD_set_ne false hij] at hj; exact .inr hj
  have hlt : i < listed.size := by rw [hinv.head.size]; exact (Array.getElem?_eq_some_iff.1 (hsub i o ho)).1
  rw [hd]
  refine ⟨hinv.kp.trans hk, ?_, ?_, ?_, ?_, hinv.head.set hr hilt⟩
  · simpa [Act.put] using hinv.size
  · simpa [Act.put] using hinv.defers
  · intro j dj Rj hj hdj hRj
    by_cases hji : j = i
    · subst hji
      rw [hdi] at hdj; cases hdj
      rw [hR] at hRj; cases hRj
      rw [eval_put_same (by rw [hinv.size]; exact hdn)]
      exact hv
    · have hl := (hget j hj).resolve_left hji
      have hne : d ≠ dj := fun e => hji (dst_inj hok (e ▸ hdj) hdi)
      rw [eval_put_ne hne]
      exact hst Rj (List.mem_of_getElem? hRj) _ _ _ hk (hinv.told j dj Rj hl hdj hRj)
  · intro t ht
    have hne : d ≠ t := fun e => ht i (by simp [hlt]) (e ▸ hdi)
    rw [eval_put_ne hne]
    refine hinv.rest t (fun j hj => ht j ?_)
    exact getD_set_true hj
theorem fin_ofT {K : Act → World → Prop} (hok : regionOk m kss a0.tmps.size = true) (hlen : m.length = Rs.length) (hinv : InvT m ops Rs a0 w0 listed a w) (hall : ∀ i, i < m.length → listed.getD i false = true) (hf : FinR (fun _ a w => K a w) m Rs a0 w) : K a w := by
  have hlt : ∀ i d, dstAt m i = some d → i < m.length := fun i d hd => by
    unfold dstAt at hd
    cases hx : m[i]? with
    | none => simp [hx] at hd
    | some _ => exact (List.getElem?_eq_some_iff.1 hx).1
  have hre : ∀ i, i < m.length → (Array.replicate m.length true).getD i false = true := fun i hi => by simp [hi]
  refine fin_of (l := m) (Q := fun _ a w => K a w) (listed := Array.replicate m.length true) hok hlen ⟨hinv.kp, hinv.size, hinv.defers, by simp, fun i d R _ hd hR => hinv.told i d R (hall i (hlt i d hd)) hd hR, fun t ht => hinv.rest t (fun i _ hd => ht i (hre i (hlt i t hd)) hd), fun i o ho _ j hj => ?_⟩
    hre m Rs 0 a0 (by simp) (by simp) rfl rfl (fun t ht => (hinv.rest t (fun i _ hd => ht i t (by rw [Nat.zero_add]; exact hd) rfl)).symm) hf
  obtain ⟨ks, d, _, _, _, hdep, _, _⟩ := regionOk_at hok ho
  exact hre j (Nat.lt_trans (hdep j hj) (List.getElem?_eq_some_iff.1 ho).1)
theorem headReady (hsub : ∀ (i : Nat) o, m[i]? = some o → ops[i]? = some o) (hok : regionOk m kss n = true) (hinv : HeadInv .any ops m.length listed) (hno : ∀ i, i < m.length → i ∉ Region.ready .any ops listed) : ∀ i, i < m.length → listed.getD i false = true := by
  intro i
  induction i using Nat.strongRecOn with
  | _ i ih =>
    intro hi
    cases hc : listed.getD i false with
    | true => rfl
    | false =>
      have ho : m[i]? = some m[i] := List.getElem?_eq_getElem hi
      obtain ⟨_, _, _, _, _, hdeps, _, _⟩ := regionOk_at hok ho
      refine absurd ?_ (hno i hi)
      rw [mem_ready]
      refine ⟨?_, m[i], hsub i _ ho, fun e he hb => ?_⟩
      · have hls : i < listed.size := by rw [hinv.size]; exact (Array.getElem?_eq_some_iff.1 (hsub i _ ho)).1
        exact getD_in hls hc
      · have hm : e.on ∈ odeps m[i] := mem_deps.2 ⟨e, he, hb, rfl⟩
        exact ih e.on (hdeps _ hm) (Nat.lt_trans (hdeps _ hm) hi)
theorem wpAny_growT (hsub : ∀ (i : Nat) o, m[i]? = some o → ops[i]? = some o) (hok : regionOk m kss a0.tmps.size = true) (hst : ∀ R ∈ Rs, Tell.stable R) (hs : StepsR P ops a0 w0 Rs m kss Rs)
    (hsink : Region.sinkB .any ops m.length = true) (hchain : Region.chainB .any ops m.length = true) (hn : m.length < ops.size) {g : Nat}
    (hf : ∀ w', Kp [] w0 w' → FinR (fun _ a w => ∀ listed, HeadInv .any ops m.length listed → (∀ i, i < m.length → listed.getD i false = true) → wpAny P .any ops Q g listed a w) m Rs a0 w') :
    ∀ (fuel : Nat) (listed : Array Bool) (a : Act) (w : World), InvT m ops Rs a0 w0 listed a w → ((List.range m.length).filter fun i => !listed.getD i false).length = fuel → wpAny P .any ops Q (fuel + g) listed a w := by
  obtain ⟨hlen, _, hat⟩ := StepsR.at _ hs
  have hdone : ∀ (listed : Array Bool) (a : Act) (w : World), InvT m ops Rs a0 w0 listed a w → (∀ i, i < m.length → listed.getD i false = true) → wpAny P .any ops Q g listed a w := fun listed a w hinv hall =>
    fin_ofT (K := fun a w => ∀ listed, HeadInv .any ops m.length listed → (∀ i, i < m.length → listed.getD i false = true) → wpAny P .any ops Q g listed a w) hok hlen hinv hall (hf w hinv.kp) listed hinv.head hall
  intro fuel
  induction fuel with
  | zero =>
    intro listed a w hinv hc
    rw [Nat.zero_add]
    refine hdone listed a w hinv (fun i hi => ?_)
    have h1 := List.filter_eq_nil_iff.1 (List.eq_nil_of_length_eq_zero hc) i (List.mem_range.2 hi)
    simpa using h1
  | succ fuel ih =>
    intro listed a w hinv hc
    obtain ⟨k, hk, hkun⟩ : ∃ k, k < m.length ∧ listed.getD k false = false := by
      have hne : ((List.range m.length).filter fun i => !listed.getD i false) ≠ [] := by intro h; rw [h] at hc; simp at hc
      obtain ⟨k, hk⟩ := List.exists_mem_of_ne_nil _ hne
      obtain ⟨h1, h2⟩ := List.mem_filter.1 hk
      exact ⟨k, List.mem_range.1 h1, by simpa using h2⟩
    have hks : k < listed.size := by rw [hinv.head.size]; omega
    have htw := tail_waits hsink hchain hn hinv.head _ k rfl hk (getD_in hks hkun)
    rw [show fuel + 1 + g = (fuel + g) + 1 by omega]
    refine ⟨fun h0 => ?_, fun i hi => ?_⟩
    · have := headReady hsub hok hinv.head (fun i _ hr => by rw [h0] at hr; cases hr) k hk
      rw [this] at hkun; cases hkun
    · have him : i < m.length := by
        rcases Nat.lt_or_ge i m.length with h | h
        · exact h
        · exact absurd hi (htw i h)
      obtain ⟨hun, o, ho', hall⟩ := mem_ready.1 hi
      have ho : m[i]? = some m[i] := List.getElem?_eq_getElem him
      have hoo : o = m[i] := by rw [hsub i _ ho] at ho'; exact (Option.some.inj ho').symm
      subst hoo
      obtain ⟨ks, d, hks', hd, hdn, _, hlk, _⟩ := regionOk_at hok ho
      have hR : Rs[i]? = some Rs[i] := List.getElem?_eq_getElem (by omega)
      have hw := hat i m[i] ks Rs[i] ho hks' hR a w hinv.kp (knows_ofT hsub hinv hi ho hlen ks hlk)
      have hil : i < listed.size := by rw [hinv.head.size]; omega
      have hcnt : ((List.range m.length).filter fun j => !(listed.setIfInBounds i true).getD j false).length = fuel := by
        have e1 : (List.range m.length).filter (fun j => !(listed.setIfInBounds i true).getD j false) = ((List.range m.length).filter fun j => !listed.getD j false).filter (fun j => j != i) := by
          rw [List.filter_filter]
          refine List.filter_congr (fun j _ => ?_)
          by_cases hij : i = j
          · subst hij; simp [hil]
          · rw [getD_set_ne false hij]
            simp [Ne.symm hij]
        have hmem : i ∈ (List.range m.length).filter (fun j => !listed.getD j false) := List.mem_filter.2 ⟨List.mem_range.2 him, by rw [getD_both hun]; rfl⟩
        have hnd : ((List.range m.length).filter fun j => !listed.getD j false).Nodup := List.Pairwise.filter _ List.nodup_range
        rw [e1, ← hnd.erase_eq_filter, List.length_erase_of_mem hmem, hc]
        rfl
      have next : ∀ v w', Kp [] w w' → Rs[i] v w' → wpAny P .any ops Q (fuel + g) (listed.setIfInBounds i true) (a.put m[i].dst v) w' := fun v w' hk hv =>
        ih _ _ _ (inv_stepT hsub hok hst hinv hi ho hR hk hv) hcnt
      unfold wants at hw
      unfold wpOp
      simp only [ho']
      split
      · rename_i hwn
        rw [if_pos hwn] at hw
        refine .inl ?_
        unfold Oper.wp
        generalize (execOp a.eval m[i]).run P w = r at *
        cases r with
        | ok x w' =>
          cases x <;> simp only [grown] at hw <;> simp only [Oper.upon]
          case value v => exact next v w' hw.1 hw.2
          case skip => exact next undef w' hw.1 hw.2
          case enter f args =>
            refine hw.mono ?_
            rintro e w'' ⟨v, rfl, h1, h2⟩
            exact next v w'' h1 h2
        | halt x w' => simp only [grown] at hw
      · rename_i hwn
        rw [if_neg hwn] at hw
        exact next undef w (Kp.refl _ _) hw
/-- the array that has the first n listed. -/
def firsts (n s : Nat) : Array Bool := Array.replicate n true ++ Array.replicate (s - n) false
theorem firsts_eq {s : Nat} (hn : n ≤ s) (hinv : HeadInv .any ops n listed) (hs : ops.size = s) (hall : ∀ i, i < n → listed.getD i false = true) : listed = firsts n s := by
  have hsz : listed.size = s := by rw [hinv.size, hs]
  refine Array.ext (by simp [firsts]; omega) (fun i h1 h2 => ?_)
  rcases Nat.lt_or_ge i n with h | h
  · have := hall i h
    simp [h1] at this
    simp [firsts, this, h]
  · have := hinv.tail i h (by omega)
    simp [h1] at this
    simp [firsts, this, Array.getElem_append, Nat.not_lt.2 h]
/-- **The first n operations only make memory, the rest comes behind them, one by one.** -/
theorem region_grow_tail {id : Nat} {w : World} {l : List Oper} (n : Nat) (hm : P.follows .mixedOrders = true) (Rs : List Tell) (kss : List (List (Tmp × Option Nat))) (hok : (regionOk (l.take n) kss a0.tmps.size && decide (n < l.length) && Region.sinkB .any l.toArray n && Region.chainB .any l.toArray n && Region.seqB .any l.toArray (l.length - n) n (firsts n l.length)) = true) (hst : ∀ R ∈ Rs, Tell.stable R)
    (hs : StepsR P l.toArray a0 w.drew Rs (l.take n) kss Rs) (hf : ∀ w', Kp [] w.drew w' → FinR (fun _ a w => wpList P l.toArray Q (l.drop n) a w) (l.take n) Rs a0 w') : (Code.region id l.toArray true).wp P Q a0 w := by
  simp only [Bool.and_eq_true, decide_eq_true_eq] at hok
  obtain ⟨⟨⟨⟨hok, hn⟩, hsink⟩, hchain⟩, hseq⟩ := hok
  have htl : (l.take n).length = n := by simp; omega
  refine wp_region_any hm ?_
  have hsub : ∀ (i : Nat) o, (l.take n)[i]? = some o → l.toArray[i]? = some o := fun i o h => by
    rw [List.getElem?_take] at h
    split at h
    · rw [List.getElem?_toArray]; exact h
    · cases h
  have H := wpAny_growT (m := l.take n) (ops := l.toArray) (Q := Q) (g := l.length - n) (w0 := w.drew) hsub hok hst hs (by rw [htl]; exact hsink) (by rw [htl]; exact hchain) (by rw [htl]; simpa using hn) (fun w' hk => by
    have key : ∀ (m : List Oper) (rs : List Tell) (b : Act), FinR (fun _ a w => wpList P l.toArray Q (l.drop n) a w) m rs b w' → FinR (fun _ a w => ∀ listed, HeadInv .any l.toArray (l.take n).length listed → (∀ i, i < (l.take n).length → listed.getD i false = true) → wpAny P .any l.toArray Q (l.length - n) listed a w) m rs b w' := by
      intro m
      have base : ∀ b : Act, wpList P l.toArray Q (l.drop n) b w' → ∀ listed, HeadInv .any l.toArray (l.take n).length listed → (∀ i, i < (l.take n).length → listed.getD i false = true) → wpAny P .any l.toArray Q (l.length - n) listed b w' := by
        intro b hb listed hinv hall
        rw [htl] at hinv hall
        rw [firsts_eq (Nat.le_of_lt hn) hinv (by simp) hall]
        have := wpAny_of_seq (P := P) (md := .any) (Q' := Q) (ops := l.toArray) (l.drop n) n (firsts n l.length) b w' (fun j => by simp [List.getElem?_drop]) (by rw [List.length_drop]; exact hseq) hb
        rwa [List.length_drop] at this
      induction m with
      | nil => intro rs b h; cases rs <;> exact base b h
      | cons o m ih =>
        intro rs b h
        cases rs with
        | nil => exact base b h
        | cons R rs => exact fun v hv => ih rs _ (h v hv)
    exact key _ _ _ (hf w' hk)) n (Array.replicate l.toArray.size false) a0 w.drew
    ⟨Kp.refl _ _, rfl, rfl, (fun i d R h => by rw [getD_replicate_false] at h; cases h), fun _ _ => rfl, ⟨by simp, fun j oj _ hl => (by rw [getD_replicate_false] at hl; cases hl), fun t _ ht => getD_in (by simpa using ht) (getD_replicate_false _ _)⟩⟩ (by
      rw [htl, List.filter_eq_self.2 (fun i _ => by rw [getD_replicate_false]; rfl)]; simp)
  rw [show n + (l.length - n) = l.toArray.size by simp; omega] at H
  exact H
end
end Go.Proofs.YteabdojjllfcpaaGreat

/-
  Structs of any number of cells in memory: stored whole or in part, loaded, handed back.
-/
namespace Go.Proofs.YteabdojjllfcpaaGreat
open Go.RowKit
open Go.Proofs
/-- cells with others laid over them from a place on. -/
def putAll : Array Value → Nat → List Value → Array Value
  | C, _, [] => C
  | C, o, x :: l => putAll (C.setIfInBounds o x) (o + 1) l
theorem heap_fcells (g : Nat) (t : TypeId) : ∀ (l : List Value) (o : Nat) (w : World) (C : Array Value), w.heap[g]? = some (.cells C t (0, 0)) → (w.setCells g o l).heap[g]? = some (.cells (putAll C o l) t (0, 0))
  | [], _, _, _, h => h
  | x :: l, o, w, C, h => heap_fcells g t l (o + 1) _ _ (heap_setCell_same w g o C t x h)
theorem kp_fcells (w : World) (g : Nat) : ∀ (l : List Value) (o : Nat) (w1 : World), Kp [g] w w1 → Kp [g] w (w1.setCells g o l)
  | [], _, _, h => h
  | x :: l, o, w1, h => kp_fcells w g l (o + 1) _ (h.setCell (p := ⟨g, o, none⟩) (.inl (by simp)) x)
theorem flat_range {w : World} {g : Nat} {C : Array Value} {t : TypeId} {fr : Nat × Nat} (hg : w.heap[g]? = some (.cells C t fr)) (o : Nat) (cs : List Value) (h : ∀ (j : Nat) v, cs[j]? = some v → C[o + j]? = some v) : w.rangeAt g o cs := fun j v hv => by
  rw [cell_of_row w g (o + j) C t fr hg]; exact h j v hv
/-- a struct stored whole, at a place within a block. -/
theorem wpList_store_flat {w : World} {ops : Array Oper} {rest : List Oper} {o : Oper} {a : Act} {Q : Exit → Act → World → Prop} (hgd : o.guard = none) (T : TypeId) (p r : Operand) (ho : o.op = .store T p r) (g off : Nat) (hp : a.eval p = .pointer (some ⟨g, off, none⟩)) (C : Array Value) (t : TypeId) (cs : List Value)
    (hg : w.heap[g]? = some (.cells C t (0, 0))) (hu : a.eval r = .agg cs.toArray) (hsz : off + cs.length ≤ C.size) (hi : (Tryz.prog.info? T).map (·.size) = some cs.length) (h1 : ∀ v ∈ cs, v.oneCell' = true) (C' : Array Value) (hC : putAll C off cs = C')
    (h : ∀ w', w'.heap[g]? = some (.cells C' t (0, 0)) → Kp [g] w w' → wpList Tryz.prog ops Q rest (a.put o.dst undef) w') : wpList Tryz.prog ops Q (o :: rest) a w := by
  refine wpList_store_mid hgd T p r ho g off cs.toArray hp hu ?_ (by simpa using hi) (all_oneCell_toArray h1) ?_
  · intro j hj
    simp only [List.size_toArray] at hj
    rw [cell_of_row w g (off + j) _ _ _ hg]
    refine ⟨?_, frozen_of_row w g (off + j) _ _ hg⟩
    rw [Array.getElem?_eq_getElem (by omega)]
    rfl
  · refine h _ ?_ (kp_fcells w g _ off w (Kp.refl _ _))
    rw [← hC]
    exact heap_fcells g t cs off w C hg
theorem load_flat {w : World} {g off : Nat} {C : Array Value} {t T : TypeId} {fr : Nat × Nat} {d : TypeDesc} (hg : w.heap[g]? = some (.cells C t fr)) (cs : List Value) (hc : ∀ (j : Nat) v, cs[j]? = some v → C[off + j]? = some v)
    (hu : Tryz.prog.underlying T = some d) (hd : d.isRow = true) (hi : (Tryz.prog.info? T).map (·.size) = some cs.length) : (loadVar T ⟨g, off, none⟩).run Tryz.prog w = .ok (.agg cs.toArray) w :=
  run_loadVar_mid w g off T cs d (flat_range hg off cs hc) hu hd hi
theorem grown_loadf {o : Oper} {a : Act} {w : World} {R : Tell} (T : TypeId) (p : Operand) (ho : o.op = .load T p) (g off : Nat) (hp : a.eval p = .pointer (some ⟨g, off, none⟩)) (C : Array Value) (t : TypeId) (fr : Nat × Nat) (d : TypeDesc) (hg : w.heap[g]? = some (.cells C t fr)) (cs : List Value) (hc : ∀ (j : Nat) v, cs[j]? = some v → C[off + j]? = some v)
    (hu : Tryz.prog.underlying T = some d) (hd : d.isRow = true) (hi : (Tryz.prog.info? T).map (·.size) = some cs.length) (hR : R (.agg cs.toArray) w) : grown Tryz.prog w R ((execOp a.eval o).run Tryz.prog w) := by
  refine grown_run ?_ (Kp.refl _ _) hR
  unfold execOp
  simp only [ho, hp, Instr.loadAt, Instr.sureAddr, Sem.run_bind, Sem.run_pure, Result.andThen_ok, load_flat hg cs hc hu hd hi]
theorem load_whole {w : World} {g : Nat} {C : Array Value} {t T : TypeId} {fr : Nat × Nat} {d : TypeDesc} (hg : w.heap[g]? = some (.cells C t fr)) (hu : Tryz.prog.underlying T = some d) (hd : d.isRow = true) (hi : (Tryz.prog.info? T).map (·.size) = some C.size) : (loadVar T ⟨g, 0, none⟩).run Tryz.prog w = .ok (.agg C) w := by
  have := load_flat (off := 0) hg C.toList (fun j v hv => by rw [Nat.zero_add]; simpa using hv) hu hd (by simpa using hi)
  simpa using this
theorem results_flat1 {fn : Func} {p : Tmp} {T : TypeId} {w : World} {g : Nat} {C : Array Value} {t : TypeId} {fr : Nat × Nat} {d : TypeDesc} (h : fn.results = #[.cell p T]) (tmps : Array Value) (hp : tmps.getD p undef = .pointer (some ⟨g, 0, none⟩)) (hg : w.heap[g]? = some (.cells C t fr)) (hu : Tryz.prog.underlying T = some d) (hd : d.isRow = true) (hi : (Tryz.prog.info? T).map (·.size) = some C.size) : (results fn tmps).run Tryz.prog w = .ok (.agg C) w := by
  have hp' : tmps[p]?.getD undef = .pointer (some ⟨g, 0, none⟩) := by simpa using hp
  simp [results, h, hp', asAddr, load_whole hg hu hd hi]
end Go.Proofs.YteabdojjllfcpaaGreat

/-
  Regions that draw their order, whose first operations keep an invariant over frame and world and come ahead of the rest: of each a predicate tells what it yields, and stays true along a relation; one look at each serves every order.
-/
namespace Go.Proofs.YteabdojjllfcpaaGreat
open Go.RowKit
def grownG (K : World → World → Prop) (G : Act → World → Prop) (P : Program) (a : Act) (d : Option Tmp) (w : World) (R : Tell) : Result Next → Prop
  | .ok (.value v) w' => (K w w' ∧ G (a.put d v) w') ∧ R v w'
  | .ok .skip w' => (K w w' ∧ G (a.put d undef) w') ∧ R undef w'
  | .ok (.enter f args) w' => Calls P f args w' fun e w'' => ∃ v, e = .returned v ∧ (K w w'' ∧ G (a.put d v) w'') ∧ R v w''
  | _ => False
/-- What one operation must do. -/
def wantsG (K : World → World → Prop) (G : Act → World → Prop) (P : Program) (ops : Array Oper) (o : Oper) (a : Act) (w : World) (R : Tell) : Prop :=
  if Region.wanted o (yielded ops a.tmps) then grownG K G P a o.dst w R ((execOp a.eval o).run P w) else (K w w ∧ G (a.put o.dst undef) w) ∧ R undef w
def StepsG (K : World → World → Prop) (G : Act → World → Prop) (P : Program) (ops : Array Oper) (a0 : Act) (Rs : List Tell) : List Oper → List (List (Tmp × Option Nat)) → List Tell → Prop
  | o :: l, ks :: kss, R :: rs => (∀ a w, G a w → Knows a0 Rs a w ks → wantsG K G P ops o a w R) ∧ StepsG K G P ops a0 Rs l kss rs
  | [], [], [] => True
  | _, _, _ => False
theorem StepsG.at {K : World → World → Prop} {G : Act → World → Prop} {P : Program} {a0 : Act} {Rs : List Tell} (ops : Array Oper) : ∀ {l : List Oper} {kss : List (List (Tmp × Option Nat))} {rs : List Tell}, StepsG K G P ops a0 Rs l kss rs → l.length = rs.length ∧ l.length = kss.length ∧ ∀ (i : Nat) o ks R, l[i]? = some o → kss[i]? = some ks → rs[i]? = some R → ∀ a w, G a w → Knows a0 Rs a w ks → wantsG K G P ops o a w R
  | [], [], [], _ => ⟨rfl, rfl, fun i o ks R h => by simp at h⟩
  | o :: l, ks :: kss, R :: rs, h => by
    obtain ⟨h1, h2, h3⟩ := StepsG.at ops h.2
    refine ⟨by simp [h1], by simp [h2], fun i o' ks' R' ho hk hR => ?_⟩
    cases i with
    | zero =>
      simp at ho hk hR
      subst ho; subst hk; subst hR
      exact h.1
    | succ i => exact h3 i o' ks' R' (by simpa using ho) (by simpa using hk) (by simpa using hR)
  | [], [], _ :: _, h => h.elim
  | [], _ :: _, [], h => h.elim
  | [], _ :: _, _ :: _, h => h.elim
  | _ :: _, [], [], h => h.elim
  | _ :: _, [], _ :: _, h => h.elim
  | _ :: _, _ :: _, [], h => h.elim
section
variable {K : World → World → Prop} {G : Act → World → Prop} {P : Program} {m : List Oper} {ops : Array Oper} {Q : Exit → Act → World → Prop} {a0 : Act} {Rs : List Tell} {kss : List (List (Tmp × Option Nat))} {n i : Nat} {listed : Array Bool} {a : Act} {w w' : World} {o : Oper} {R : Tell} {v : Value}
/-- The head m of the operations ops: what is listed of it so far. -/
structure InvG (G : Act → World → Prop) (m : List Oper) (ops : Array Oper) (Rs : List Tell) (a0 : Act) (listed : Array Bool) (a : Act) (w : World) : Prop where
  g : G a w
  size : a.tmps.size = a0.tmps.size
  defers : a.defers = a0.defers
  told : ∀ i d R, listed.getD i false = true → dstAt m i = some d → Rs[i]? = some R → R (a.eval (.tmp d)) w
  rest : ∀ t, (∀ i, listed.getD i false = true → dstAt m i ≠ some t) → a.eval (.tmp t) = a0.eval (.tmp t)
  head : HeadInv .any ops m.length listed
theorem InvG.closed (hsub : ∀ (i : Nat) o, m[i]? = some o → ops[i]? = some o) (hinv : InvG G m ops Rs a0 listed a w) : ∀ (i : Nat) o, m[i]? = some o → listed.getD i false = true → ∀ j ∈ odeps o, listed.getD j false = true := by
  intro i o ho hl j hj
  obtain ⟨e, he, hb, rfl⟩ := mem_deps.1 hj
  exact hinv.head.closed i o (hsub i o ho) hl e he hb
end
end Go.Proofs.YteabdojjllfcpaaGreat

/-
  Regions that draw their order, stores among them: an invariant over what was done, frame and world; of each operation that yields something a predicate tells what, and stays true along a relation; one look at each operation serves every order.
-/
namespace Go.Proofs.YteabdojjllfcpaaGreat
open Go.RowKit
/-- what was done is closed under what must come ahead. -/
def ClosedL (l : List Oper) (listed : Array Bool) : Prop := ∀ (i : Nat) o, l[i]? = some o → listed.getD i false = true → ∀ j ∈ odeps o, listed.getD j false = true
def StepsL (K : World → World → Prop) (G : Array Bool → Act → World → Prop) (P : Program) (l0 : List Oper) (a0 : Act) (Rs : List Tell) : Nat → List Oper → List (List (Tmp × Option Nat)) → List Tell → Prop
  | k, o :: l, ks :: kss, R :: rs => (∀ listed a w, listed.getD k false = false → (∀ j ∈ odeps o, listed.getD j false = true) → ClosedL l0 listed → k < listed.size → G listed a w → Knows a0 Rs a w ks → wantsG K (G (listed.setIfInBounds k true)) P l0.toArray o a w R) ∧ StepsL K G P l0 a0 Rs (k + 1) l kss rs
  | _, [], [], [] => True
  | _, _, _, _ => False
theorem StepsL.at {K : World → World → Prop} {G : Array Bool → Act → World → Prop} {P : Program} {l0 : List Oper} {a0 : Act} {Rs : List Tell} : ∀ {l : List Oper} {kss : List (List (Tmp × Option Nat))} {rs : List Tell} {k : Nat}, StepsL K G P l0 a0 Rs k l kss rs → l.length = rs.length ∧ l.length = kss.length ∧ ∀ (i : Nat) o ks R, l[i]? = some o → kss[i]? = some ks → rs[i]? = some R → ∀ listed a w, listed.getD (k + i) false = false → (∀ j ∈ odeps o, listed.getD j false = true) → ClosedL l0 listed → k + i < listed.size → G listed a w → Knows a0 Rs a w ks → wantsG K (G (listed.setIfInBounds (k + i) true)) P l0.toArray o a w R
  | [], [], [], _, _ => ⟨rfl, rfl, fun i o ks R h => by simp at h⟩
  | o :: l, ks :: kss, R :: rs, k, h => by
    obtain ⟨h1, h2, h3⟩ := StepsL.at h.2
    refine ⟨by simp [h1], by simp [h2], fun i o' ks' R' ho hk hR => ?_⟩
    cases i with
    | zero =>
      simp at ho hk hR
      subst ho; subst hk; subst hR
      exact h.1
    | succ i =>
      have := h3 i o' ks' R' (by simpa using ho) (by simpa using hk) (by simpa using hR)
      rw [show k + (i + 1) = k + 1 + i by omega]
      exact this
  | [], [], _ :: _, _, h => h.elim
  | [], _ :: _, [], _, h => h.elim
  | [], _ :: _, _ :: _, _, h => h.elim
  | _ :: _, [], [], _, h => h.elim
  | _ :: _, [], _ :: _, _, h => h.elim
  | _ :: _, _ :: _, [], _, h => h.elim
section
variable {K : World → World → Prop} {G : Array Bool → Act → World → Prop} {P : Program} {l : List Oper} {Q : Exit → Act → World → Prop} {a0 : Act} {Rs : List Tell} {kss : List (List (Tmp × Option Nat))} {n i : Nat} {listed : Array Bool} {a : Act} {w w' : World} {o : Oper} {R : Tell} {v : Value}
end
end Go.Proofs.YteabdojjllfcpaaGreat

/-
  Small words for regions that draw their order and store (region_growL), where every slot holds a value that is known.
-/
namespace Go.Proofs.YteabdojjllfcpaaGreat
open Go.RowKit
section
variable {w w' : World} {g : Nat} {listed : Array Bool} {a : Act} {l0 : List Oper}
theorem wantsG_skipM {K : World → World → Prop} {G : Act → World → Prop} {ops : Array Oper} {o : Oper} {R : Tell} (hg : o.guard = none) (hrun : (execOp a.eval o).run Tryz.prog w = .ok .skip w' ∨ (execOp a.eval o).run Tryz.prog w = .ok (.value undef) w') (h : (K w w' ∧ G (a.put o.dst undef) w') ∧ R undef w') : wantsG K G Tryz.prog ops o a w R := by
  unfold wantsG
  rw [if_pos (by simp [Region.wanted, hg])]
  rcases hrun with e | e <;> rw [e] <;> exact h
theorem getD_set_neM {i j : Nat} (h : i ≠ j) : (listed.setIfInBounds i true).getD j false = listed.getD j false := by
  simp [h]
end
end Go.Proofs.YteabdojjllfcpaaGreat

/-
  Regions that draw their order around one call that writes old memory: the operations ahead of it only make memory, and so do those behind it; one look at each serves every order.
-/
namespace Go.Proofs.YteabdojjllfcpaaGreat
open Go.RowKit
set_option linter.unusedVariables false
/-- behind the first n none is ready as long as one of them is not done; the others wait for the n-th. -/
def backB (l : List Oper) (n : Nat) : Bool :=
  ((List.range n).all fun i => (List.range (n + 1)).any fun j => decide (i < j) && (match l[j]? with | some o => (odeps o).contains i | none => false)) &&
  ((List.range l.length).all fun t => decide (t ≤ n) || (match l[t]? with | some o => (odeps o).any fun k => decide (n ≤ k) | none => true))
section
variable {P : Program} {l : List Oper} {Q : Exit → Act → World → Prop} {a0 a1 : Act} {w0 w1 : World} {Rs : List Tell} {kss : List (List (Tmp × Option Nat))} {n i : Nat} {listed : Array Bool} {a : Act} {w w' : World} {o : Oper} {v : Value}
theorem back_all (h : backB l n = true) (hcl : ∀ j oj, l[j]? = some oj → listed.getD j false = true → ∀ e ∈ odeps oj, listed.getD e false = true) (hn : ∀ o, l[n]? = some o → ∀ e ∈ odeps o, listed.getD e false = true) : ∀ (d k : Nat), n - k = d → k < n → listed.getD k false = true := by
  unfold backB at h
  rw [Bool.and_eq_true, List.all_eq_true] at h
  intro d
  induction d using Nat.strongRecOn with
  | _ d ih =>
    intro k hd hk
    have h1 := h.1 k (List.mem_range.2 hk)
    rw [List.any_eq_true] at h1
    obtain ⟨j, hj, h2⟩ := h1
    rw [Bool.and_eq_true, decide_eq_true_eq] at h2
    have hj2 := List.mem_range.1 hj
    cases ho : l[j]? with
    | none => rw [ho] at h2; exact absurd h2.2 (by simp)
    | some o =>
      rw [ho] at h2
      have hmem : k ∈ odeps o := by simpa using h2.2
      by_cases hjn : j = n
      · subst hjn
        exact hn o ho k hmem
      · exact hcl j o ho (ih (n - j) (by omega) j rfl (by omega)) k hmem
theorem back_waits (h : backB l n = true) (inv : HeadInv .any l.toArray n listed) {k : Nat} (hk : k < n) (hun : listed.getD k false = false) : ∀ t, n ≤ t → t ∉ Region.ready .any l.toArray listed := by
  intro t ht hr
  obtain ⟨hu, o, ho', hall⟩ := mem_ready.1 hr
  have ho : l[t]? = some o := by rw [← List.getElem?_toArray]; exact ho'
  have htl : t < l.length := (List.getElem?_eq_some_iff.1 ho).1
  have hdep : ∀ e ∈ odeps o, listed.getD e false = true := fun e he => by
    obtain ⟨x, hx, hb, rfl⟩ := mem_deps.1 he
    exact hall x hx hb
  rcases Nat.lt_or_ge n t with hlt | hge
  · have h2 := h
    unfold backB at h2
    rw [Bool.and_eq_true, List.all_eq_true, List.all_eq_true] at h2
    have h3 := h2.2 t (List.mem_range.2 htl)
    rw [Bool.or_eq_true, decide_eq_true_eq] at h3
    rcases h3 with h3 | h3
    · omega
    · rw [ho] at h3
      simp only [List.any_eq_true, decide_eq_true_eq] at h3
      obtain ⟨e, he, hne⟩ := h3
      have h4 := hdep e he
      have h5 : listed.getD e false = false := by
        rcases Nat.lt_or_ge e l.length with h6 | h6
        · exact getD_both (inv.tail e hne (by simpa using h6))
        · have : listed.size = l.length := by rw [inv.size]; simp
          simp [Array.getElem?_eq_none (by omega : listed.size ≤ e)]
      rw [h5] at h4; cases h4
  · have : t = n := by omega
    subst this
    have := back_all h (fun j oj hj hl e he => by
      obtain ⟨x, hx, hb, rfl⟩ := mem_deps.1 he
      exact inv.closed j oj (by rw [List.getElem?_toArray]; exact hj) hl x hx hb) (fun o' ho2 e he => by
      rw [ho] at ho2; cases ho2; exact hdep e he) _ k rfl hk
    rw [hun] at this; cases this
section
variable {m : List Oper} {ops : Array Oper}
theorem wpAny_growW (hsub : ∀ (i : Nat) o, m[i]? = some o → ops[i]? = some o) (hok : regionOk m kss a0.tmps.size = true) (hst : ∀ R ∈ Rs, Tell.stable R) (hs : StepsR P ops a0 w0 Rs m kss Rs)
    (hwait : ∀ listed, HeadInv .any ops m.length listed → ∀ k, k < m.length → listed.getD k false = false → ∀ t, m.length ≤ t → t ∉ Region.ready .any ops listed) (hn : m.length < ops.size) {g : Nat}
    (hf : ∀ w', Kp [] w0 w' → FinR (fun _ a w => ∀ listed, HeadInv .any ops m.length listed → (∀ i, i < m.length → listed.getD i false = true) → wpAny P .any ops Q g listed a w) m Rs a0 w') :
    ∀ (fuel : Nat) (listed : Array Bool) (a : Act) (w : World), InvT m ops Rs a0 w0 listed a w → ((List.range m.length).filter fun i => !listed.getD i false).length = fuel → wpAny P .any ops Q (fuel + g) listed a w := by
  obtain ⟨hlen, _, hat⟩ := StepsR.at _ hs
  have hdone : ∀ (listed : Array Bool) (a : Act) (w : World), InvT m ops Rs a0 w0 listed a w → (∀ i, i < m.length → listed.getD i false = true) → wpAny P .any ops Q g listed a w := fun listed a w hinv hall =>
    fin_ofT (K := fun a w => ∀ listed, HeadInv .any ops m.length listed → (∀ i, i < m.length → listed.getD i false = true) → wpAny P .any ops Q g listed a w) hok hlen hinv hall (hf w hinv.kp) listed hinv.head hall
  intro fuel
  induction fuel with
  | zero =>
    intro listed a w hinv hc
    rw [Nat.zero_add]
    refine hdone listed a w hinv (fun i hi => ?_)
    have h1 := List.filter_eq_nil_iff.1 (List.eq_nil_of_length_eq_zero hc) i (List.mem_range.2 hi)
    simpa using h1
  | succ fuel ih =>
    intro listed a w hinv hc
    obtain ⟨k, hk, hkun⟩ : ∃ k, k < m.length ∧ listed.getD k false = false := by
      have hne : ((List.range m.length).filter fun i => !listed.getD i false) ≠ [] := by intro h; rw [h] at hc; simp at hc
      obtain ⟨k, hk⟩ := List.exists_mem_of_ne_nil _ hne
      obtain ⟨h1, h2⟩ := List.mem_filter.1 hk
      exact ⟨k, List.mem_range.1 h1, by simpa using h2⟩
    have htw := hwait listed hinv.head k hk hkun
    rw [show fuel + 1 + g = (fuel + g) + 1 by omega]
    refine ⟨fun h0 => ?_, fun i hi => ?_⟩
    · have := headReady hsub hok hinv.head (fun i _ hr => by rw [h0] at hr; cases hr) k hk
      rw [this] at hkun; cases hkun
    · have him : i < m.length := by
        rcases Nat.lt_or_ge i m.length with h | h
        · exact h
        · exact absurd hi (htw i h)
      obtain ⟨hun, o, ho', hall⟩ := mem_ready.1 hi
      have ho : m[i]? = some m[i] := List.getElem?_eq_getElem him
      have hoo : o = m[i] := by rw [hsub i _ ho] at ho'; exact (Option.some.inj ho').symm
      subst hoo
      obtain ⟨ks, d, hks', hd, hdn, _, hlk, _⟩ := regionOk_at hok ho
      have hR : Rs[i]? = some Rs[i] := List.getElem?_eq_getElem (by omega)
      have hw := hat i m[i] ks Rs[i] ho hks' hR a w hinv.kp (knows_ofT hsub hinv hi ho hlen ks hlk)
      have hil : i < listed.size := by rw [hinv.head.size]; omega
      have hcnt : ((List.range m.length).filter fun j => !(listed.setIfInBounds i true).getD j false).length = fuel := by
        have e1 : (List.range m.length).filter (fun j => !(listed.setIfInBounds i true).getD j false) = ((List.range m.length).filter fun j => !listed.getD j false).filter (fun j => j != i) := by
          rw [List.filter_filter]
          refine List.filter_congr (fun j _ => ?_)
          by_cases hij : i = j
          · subst hij; simp [hil]
          · rw [getD_set_ne false hij]
            simp [Ne.symm hij]
        have hmem : i ∈ (List.range m.length).filter (fun j => !listed.getD j false) := List.mem_filter.2 ⟨List.mem_range.2 him, by rw [getD_both hun]; rfl⟩
        have hnd : ((List.range m.length).filter fun j => !listed.getD j false).Nodup := List.Pairwise.filter _ List.nodup_range
        rw [e1, ← hnd.erase_eq_filter, List.length_erase_of_mem hmem, hc]
        rfl
      have next : ∀ v w', Kp [] w w' → Rs[i] v w' → wpAny P .any ops Q (fuel + g) (listed.setIfInBounds i true) (a.put m[i].dst v) w' := fun v w' hk hv =>
        ih _ _ _ (inv_stepT hsub hok hst hinv hi ho hR hk hv) hcnt
      unfold wants at hw
      unfold wpOp
      simp only [ho']
      split
      · rename_i hwn
        rw [if_pos hwn] at hw
        refine .inl ?_
        unfold Oper.wp
        generalize (execOp a.eval m[i]).run P w = r at *
        cases r with
        | ok x w' =>
          cases x <;> simp only [grown] at hw <;> simp only [Oper.upon]
          case value v => exact next v w' hw.1 hw.2
          case skip => exact next undef w' hw.1 hw.2
          case enter f args =>
            refine hw.mono ?_
            rintro e w'' ⟨v, rfl, h1, h2⟩
            exact next v w'' h1 h2
        | halt x w' => simp only [grown] at hw
      · rename_i hwn
        rw [if_neg hwn] at hw
        exact next undef w (Kp.refl _ _) hw
end
/-- what is known of the first n slots and of the call's behind it. -/
def preT (l : List Oper) (n : Nat) (a1 : Act) (v : Value) : List Tell := (l.take n).map (fun o => fun u _ => u = a1.eval (.tmp (o.dst.getD 0))) ++ [fun u _ => u = v]
theorem preT_len (hn : n ≤ l.length) : (preT l n a1 v).length = n + 1 := by simp [preT, Nat.min_eq_left hn]
theorem preT_at (hn : n ≤ l.length) {R : Tell} (hi : i < n + 1) (h : (preT l n a1 v)[i]? = some R) : (i < n → ∀ d, dstAt l i = some d → R = fun u _ => u = a1.eval (.tmp d)) ∧ (i = n → R = fun u _ => u = v) := by
  unfold preT at h
  refine ⟨fun hin d hd => ?_, fun hin => ?_⟩
  · rw [List.getElem?_append_left (by simp; omega), List.getElem?_map, List.getElem?_take, if_pos hin] at h
    unfold dstAt at hd
    cases ho : l[i]? with
    | none => rw [ho] at hd; cases hd
    | some o =>
      rw [ho] at h hd
      simp only [Option.map_some, Option.some.injEq] at h
      simp only [Option.bind_some] at hd
      rw [← h, hd]
      rfl
  · rw [hin, List.getElem?_append_right (by simp only [List.length_map, List.length_take]; omega)] at h
    simp [Nat.min_eq_left hn] at h
    exact h.symm
theorem wpAny_growF {RsS : List Tell} (hn : n < l.length) (hok : regionOk l kss a1.tmps.size = true) (hd : ∀ d, dstAt l n = some d → a1.eval (.tmp d) = v) (hst : ∀ R ∈ RsS, Tell.stable R) (hs : StepsR P l.toArray a1 w1 (preT l n a1 v ++ RsS) (l.drop (n + 1)) (kss.drop (n + 1)) RsS) (hf : ∀ w', Kp [] w1 w' → FinR Q (l.drop (n + 1)) RsS a1 w') :
    ∀ (fuel : Nat) (listed : Array Bool) (a : Act) (w : World), InvR l (preT l n a1 v ++ RsS) a1 w1 listed a w → (∀ k, k < n + 1 → listed.getD k false = true) → listed.toList.count false = fuel → wpAny P .any l.toArray Q fuel listed a w := by
  obtain ⟨hlenS, _, hat⟩ := StepsR.at _ hs
  have hpl := preT_len (l := l) (n := n) (a1 := a1) (v := v) (Nat.le_of_lt hn)
  have hlen : l.length = (preT l n a1 v ++ RsS).length := by rw [List.length_append, hpl, ← hlenS, List.length_drop]; omega
  have hstA : ∀ R ∈ preT l n a1 v ++ RsS, Tell.stable R := fun R hR => by
    rcases List.mem_append.1 hR with h | h
    · unfold preT at h
      rcases List.mem_append.1 h with h | h
      · obtain ⟨o, _, rfl⟩ := List.mem_map.1 h
        exact fun _ _ _ _ e => e
      · obtain rfl := List.mem_singleton.1 h
        exact fun _ _ _ _ e => e
    · exact hst R h
  have hend : ∀ (listed : Array Bool) (a : Act) (w : World), InvR l (preT l n a1 v ++ RsS) a1 w1 listed a w → (∀ k, k < n + 1 → listed.getD k false = true) → Region.ready .any l.toArray listed = [] → Q .normal a w := fun listed a w hinv hpre hr => by
    refine fin_of hok hlen hinv (all_listed hok hinv hr) (l.drop (n + 1)) RsS (n + 1) a1 (fun j => by rw [List.getElem?_drop]) (fun j => by rw [List.getElem?_append_right (by omega), hpl]; congr 1; omega) rfl rfl (fun t ht => ?_) (hf w hinv.kp)
    by_cases hex : ∃ i, i < n + 1 ∧ dstAt l i = some t
    · obtain ⟨i, hi, hdi⟩ := hex
      have hR : (preT l n a1 v ++ RsS)[i]? = some ((preT l n a1 v)[i]'(by omega)) := by rw [List.getElem?_append_left (by omega), List.getElem?_eq_getElem (by omega)]
      have h1 := hinv.told i t _ (hpre i hi) hdi hR
      have h2 := preT_at (l := l) (n := n) (a1 := a1) (v := v) (Nat.le_of_lt hn) hi (List.getElem?_eq_getElem (by omega))
      rcases Nat.lt_or_ge i n with hlt | hge
      · have e := h2.1 hlt t hdi
        rw [e] at h1
        exact h1.symm
      · have hin : i = n := by omega
        have e := h2.2 hin
        rw [e] at h1
        rw [h1]
        exact hd t (by rw [← hin]; exact hdi)
    · refine (hinv.rest t (fun i _ hdi => ?_)).symm
      rcases Nat.lt_or_ge i (n + 1) with hlt | hge
      · exact hex ⟨i, hlt, hdi⟩
      · exact ht (i - (n + 1)) t (by rw [show n + 1 + (i - (n + 1)) = i by omega]; exact hdi) rfl
  intro fuel
  induction fuel with
  | zero =>
    intro listed a w hinv hpre hc
    have hr : Region.ready .any l.toArray listed = [] := by
      refine List.eq_nil_iff_forall_not_mem.2 (fun j hj => ?_)
      have h0 := (mem_ready.1 hj).1
      have h1 := List.count_eq_zero.1 hc
      rcases Nat.lt_or_ge j listed.size with h' | h'
      · simp [h'] at h0
        exact h1 (by rw [← h0]; simp)
      · simp [Array.getElem?_eq_none h'] at h0
    exact ⟨hr, hend listed a w hinv hpre hr⟩
  | succ fuel ih =>
    intro listed a w hinv hpre hc
    refine ⟨hend listed a w hinv hpre, fun i hi => ?_⟩
    obtain ⟨hun, o, ho', hall⟩ := mem_ready.1 hi
    have ho : l[i]? = some o := by rw [← List.getElem?_toArray]; exact ho'
    have hilt : i < l.length := (List.getElem?_eq_some_iff.1 ho).1
    have hin : n + 1 ≤ i := by
      rcases Nat.lt_or_ge i (n + 1) with h | h
      · have h1 := hpre i h
        rw [getD_both hun] at h1; cases h1
      · exact h
    obtain ⟨ks, d, hks, hdd, hdn, _, hlk, _⟩ := regionOk_at hok ho
    have hR : (preT l n a1 v ++ RsS)[i]? = some ((preT l n a1 v ++ RsS)[i]'(by omega)) := List.getElem?_eq_getElem (by omega)
    have hRS : RsS[i - (n + 1)]? = some ((preT l n a1 v ++ RsS)[i]'(by omega)) := by rw [← hR, List.getElem?_append_right (by omega), hpl]
    have hw := hat (i - (n + 1)) o ks _ (by rw [List.getElem?_drop, show n + 1 + (i - (n + 1)) = i by omega]; exact ho) (by rw [List.getElem?_drop, show n + 1 + (i - (n + 1)) = i by omega]; exact hks) hRS a w hinv.kp (knows_of hinv hi ho hlen ks hlk)
    have hls : i < listed.size := by rw [hinv.ls]; exact hilt
    have hcnt : (listed.setIfInBounds i true).toList.count false = fuel := by
      have hg : listed.toList[i]'(by simpa using hls) = false := by simpa [hls] using hun
      rw [Array.toList_setIfInBounds, List.count_set (by simpa using hls), hg, hc]
      simp
    have next : ∀ u w', Kp [] w w' → ((preT l n a1 v ++ RsS)[i]'(by omega)) u w' → wpAny P .any l.toArray Q fuel (listed.setIfInBounds i true) (a.put o.dst u) w' := fun u w' hk hv =>
      ih _ _ _ (inv_step hok hstA hinv hi ho hR hk hv) (fun k hk => getD_set_true (hpre k hk)) hcnt
    unfold wants at hw
    unfold wpOp
    simp only [ho']
    split
    · rename_i hwn
      rw [if_pos hwn] at hw
      refine .inl ?_
      unfold Oper.wp
      generalize (execOp a.eval o).run P w = r at *
      cases r with
      | ok x w' =>
        cases x <;> simp only [grown] at hw <;> simp only [Oper.upon]
        case value v => exact next v w' hw.1 hw.2
        case skip => exact next undef w' hw.1 hw.2
        case enter f args =>
          refine hw.mono ?_
          rintro e w'' ⟨v, rfl, h1, h2⟩
          exact next v w'' h1 h2
      | halt x w' => simp only [grown] at hw
    · rename_i hwn
      rw [if_neg hwn] at hw
      exact next undef w (Kp.refl _ _) hw
/-- behind the call: what the rest tells, one look at each. -/
def Rest (P : Program) (l : List Oper) (kss : List (List (Tmp × Option Nat))) (n : Nat) (Q : Exit → Act → World → Prop) (a1 : Act) (v : Value) (w1 : World) : Prop :=
  ∃ RsS : List Tell, (∀ R ∈ RsS, Tell.stable R) ∧ StepsR P l.toArray a1 w1 (preT l n a1 v ++ RsS) (l.drop (n + 1)) (kss.drop (n + 1)) RsS ∧ ∀ w', Kp [] w1 w' → FinR Q (l.drop (n + 1)) RsS a1 w'
/-- **The first n operations only make memory, the n-th is a call of a function, the rest only makes memory.** -/
theorem region_grow_call {id : Nat} {w : World} (n : Nat) (hm : P.follows .mixedOrders = true) (Rs : List Tell) (kss : List (List (Tmp × Option Nat))) (hok : (regionOk (l.take n) (kss.take n) a0.tmps.size && regionOk l kss a0.tmps.size && decide (n < l.length) && backB l n) = true) (hst : ∀ R ∈ Rs, Tell.stable R)
    (hs : StepsR P l.toArray a0 w.drew Rs (l.take n) (kss.take n) Rs) (o : Oper) (ho : l[n]? = some o) (hg : o.guard = none) (hf : ∀ w', Kp [] w.drew w' → FinR (fun _ a w1 => ∀ K : Act → World → Prop, (∀ (v : Value) (w2 : World), Rest P l kss n Q (a.put o.dst v) v w2 → K (a.put o.dst v) w2) → Oper.wp P o a w1 K Q) (l.take n) Rs a0 w') : (Code.region id l.toArray true).wp P Q a0 w := by
  simp only [Bool.and_eq_true, decide_eq_true_eq] at hok
  obtain ⟨⟨⟨hok, hokA⟩, hn⟩, hback⟩ := hok
  have htl : (l.take n).length = n := by simp; omega
  refine wp_region_any hm ?_
  have hsub : ∀ (i : Nat) o, (l.take n)[i]? = some o → l.toArray[i]? = some o := fun i o h => by
    rw [List.getElem?_take] at h
    split at h
    · rw [List.getElem?_toArray]; exact h
    · cases h
  have H := wpAny_growW (m := l.take n) (ops := l.toArray) (Q := Q) (g := l.length - n) (w0 := w.drew) hsub hok hst hs (by rw [htl]; exact fun listed inv k hk hun => back_waits hback inv hk hun) (by rw [htl]; simpa using hn) (fun w' hk => by
    have key : ∀ (m : List Oper) (rs : List Tell) (b : Act), b.tmps.size = a0.tmps.size → FinR (fun _ a w1 => ∀ K : Act → World → Prop, (∀ (v : Value) (w2 : World), Rest P l kss n Q (a.put o.dst v) v w2 → K (a.put o.dst v) w2) → Oper.wp P o a w1 K Q) m rs b w' → FinR (fun _ a w => ∀ listed, HeadInv .any l.toArray (l.take n).length listed → (∀ i, i < (l.take n).length → listed.getD i false = true) → wpAny P .any l.toArray Q (l.length - n) listed a w) m rs b w' := by
      intro m
      have base : ∀ b : Act, b.tmps.size = a0.tmps.size → (∀ K : Act → World → Prop, (∀ (v : Value) (w2 : World), Rest P l kss n Q (b.put o.dst v) v w2 → K (b.put o.dst v) w2) → Oper.wp P o b w' K Q) → ∀ listed, HeadInv .any l.toArray (l.take n).length listed → (∀ i, i < (l.take n).length → listed.getD i false = true) → wpAny P .any l.toArray Q (l.length - n) listed b w' := by
        intro b hbs hb listed hinv hall
        rw [htl] at hinv hall
        have hls : listed.size = l.length := by rw [hinv.size]; simp
        have hcl : ∀ j oj, l[j]? = some oj → listed.getD j false = true → ∀ e ∈ odeps oj, listed.getD e false = true := fun j oj hj hl e he => by
          obtain ⟨x, hx, hb, rfl⟩ := mem_deps.1 he
          exact hinv.closed j oj (by rw [List.getElem?_toArray]; exact hj) hl x hx hb
        have hunl : ∀ t, n ≤ t → listed.getD t false = false := fun t ht => by
          rcases Nat.lt_or_ge t l.length with h | h
          · exact getD_both (hinv.tail t ht (by simpa using h))
          · simp [Array.getElem?_eq_none (by omega : listed.size ≤ t)]
        have only : ∀ i ∈ Region.ready .any l.toArray listed, i = n := fun i hi => by
          obtain ⟨hun, o', ho', hdall⟩ := mem_ready.1 hi
          have ho2 : l[i]? = some o' := by rw [← List.getElem?_toArray]; exact ho'
          have hil : i < l.length := (List.getElem?_eq_some_iff.1 ho2).1
          have h2 := hback
          unfold backB at h2
          rw [Bool.and_eq_true, List.all_eq_true, List.all_eq_true] at h2
          have h3 := h2.2 i (List.mem_range.2 hil)
          rw [Bool.or_eq_true, decide_eq_true_eq] at h3
          rcases h3 with h3 | h3
          · rcases Nat.lt_or_ge i n with h | h
            · have := hall i h
              rw [getD_both hun] at this; cases this
            · omega
          · rw [ho2] at h3
            simp only [List.any_eq_true, decide_eq_true_eq] at h3
            obtain ⟨e, he, hne⟩ := h3
            obtain ⟨x, hx, hb, rfl⟩ := mem_deps.1 he
            have := hdall x hx hb
            rw [hunl _ hne] at this; cases this
        have hnr : n ∈ Region.ready .any l.toArray listed := by
          rw [mem_ready]
          refine ⟨hinv.tail n (Nat.le_refl _) (by simpa using hn), o, by rw [List.getElem?_toArray]; exact ho, fun e he hb => ?_⟩
          have := (regionOk_at hokA ho).elim (fun ks h => h.elim (fun d h => h.2.2.2.1))
          exact hall e.on (this e.on (mem_deps.2 ⟨e, he, hb, rfl⟩))
        obtain ⟨g, hg2⟩ : ∃ g, l.length - n = g + 1 := ⟨l.length - n - 1, by omega⟩
        rw [hg2]
        refine ⟨fun h0 => (by rw [h0] at hnr; cases hnr), fun i hi => ?_⟩
        have hin := only i hi
        subst hin
        unfold wpOp
        have ho3 : l.toArray[i]? = some o := by rw [List.getElem?_toArray]; exact ho
        simp only [ho3]
        have hwn : Region.wanted o (yielded l.toArray b.tmps) = true := by simp [Region.wanted, hg]
        rw [if_pos hwn]
        refine .inl (hb _ (fun v w2 hrest => ?_))
        obtain ⟨RsS, r1, r2, r3⟩ := hrest
        obtain ⟨ks, d, _, hd, hdn, _, _, hdist⟩ := regionOk_at hokA ho
        have hsz : (b.put o.dst v).tmps.size = a0.tmps.size := by rw [hd]; simpa [Act.put] using hbs
        have hev : ∀ d', dstAt l i = some d' → (b.put o.dst v).eval (.tmp d') = v := fun d' hd' => by
          have : d' = d := by unfold dstAt at hd'; rw [ho] at hd'; simp only [Option.bind_some] at hd'; rw [hd] at hd'; exact (Option.some.inj hd').symm
          subst this
          rw [hd]
          exact eval_put_same (by rw [hbs]; exact hdn)
        have hil : i < listed.size := by rw [hls]; exact hn
        have hpre : ∀ k, k < i + 1 → (listed.setIfInBounds i true).getD k false = true := fun k hk => by
          rcases Nat.lt_or_ge k i with h | h
          · exact getD_set_true (hall k h)
          · have : k = i := by omega
            subst this
            simp [hil]
        refine wpAny_growF (l := l) (n := i) (RsS := RsS) (a1 := b.put o.dst v) (w1 := w2) (v := v) hn (by rw [hsz]; exact hokA) hev r1 r2 r3 _ _ _ _ ⟨Kp.refl _ _, rfl, rfl, by simpa using hls, ?_, fun _ _ => rfl, ?_⟩ hpre ?_
        · intro j dj Rj hj hdj hRj
          have hji : j < i + 1 := by
            rcases Nat.lt_or_ge j (i + 1) with h | h
            · exact h
            · rw [getD_set_ne false (by omega), hunl j (by omega)] at hj; cases hj
          rw [List.getElem?_append_left (by rw [preT_len (Nat.le_of_lt hn)]; exact hji)] at hRj
          have h2 := preT_at (Nat.le_of_lt hn) hji hRj
          rcases Nat.lt_or_ge j i with h | h
          · rw [h2.1 h dj hdj]
          · rw [h2.2 (by omega)]
            exact hev dj (by rw [← (show j = i by omega)]; exact hdj)
        · intro j oj hj hl e he
          rcases Nat.lt_or_ge j i with h | h
          · exact getD_set_true (hcl j oj hj (hall j h) e he)
          · have hji : j = i := by
              rcases Nat.lt_or_ge i j with h3 | h3
              · rw [getD_set_ne false (by omega), hunl j (by omega)] at hl; cases hl
              · omega
            subst hji
            obtain ⟨_, _, _, _, _, hdeps, _, _⟩ := regionOk_at hokA hj
            exact getD_set_true (hall e (hdeps e he))
        · have h1 : listed = firsts i l.length := firsts_eq (ops := l.toArray) (Nat.le_of_lt hn) hinv (by simp) hall
          have hcount : listed.toList.count false = l.length - i := by
            rw [h1]
            unfold firsts
            rw [Array.toList_append, Array.toList_replicate, Array.toList_replicate, List.count_append, List.count_replicate, List.count_replicate]
            simp
          have hgt : listed.toList[i]'(by simpa using hil) = false := by have := hunl i (Nat.le_refl _); simpa [hil] using this
          rw [Array.toList_setIfInBounds, List.count_set (by simpa using hil), hgt, hcount, hg2]
          simp
      induction m with
      | nil => intro rs b hbs h; cases rs <;> exact base b hbs h
      | cons o' m ih =>
        intro rs b hbs h
        cases rs with
        | nil => exact base b hbs h
        | cons R rs => exact fun v hv => ih rs _ (by cases o'.dst <;> simpa [Act.put] using hbs) (h v hv)
    exact key _ _ _ rfl (hf w' hk)) n (Array.replicate l.toArray.size false) a0 w.drew
    ⟨Kp.refl _ _, rfl, rfl, (fun i d R h => by rw [getD_replicate_false] at h; cases h), fun _ _ => rfl, ⟨by simp, fun j oj _ hl => (by rw [getD_replicate_false] at hl; cases hl), fun t _ ht => getD_in (by simpa using ht) (getD_replicate_false _ _)⟩⟩ (by
      rw [htl, List.filter_eq_self.2 (fun i _ => by rw [getD_replicate_false]; rfl)]; simp)
  rw [show n + (l.length - n) = l.toArray.size by simp; omega] at H
  exact H
theorem wp_callQ {K : Act → World → Prop} {f : FuncId} {fn : Func} {xs : Array Operand} {ats : Array TypeId} (ho : o.op = .call { callee := .value (.func f), args := xs, argTypes := ats }) (hf : P.funcs[f]? = some fn) (hn : (fn.name == "runtime.NumGoroutine") = false) (hb : fn.body.isNone = false)
    (h : Calls P f (xs.map a.eval) w fun e w' => ∃ v, e = .returned v ∧ K (a.put o.dst v) w') : Oper.wp P o a w K Q := by
  have e : (execOp a.eval o).run P w = .ok (.enter f (xs.map a.eval)) w := by
    obtain ⟨dst, op, ty, pos, after, guard⟩ := o
    simp only at ho
    subst ho
    rw [execOp_call_go]
    have h1 : fn.name ≠ "runtime.NumGoroutine" := by simpa using hn
    have h2 : ¬ fn.body = none := by intro h2; rw [h2] at hb; cases hb
    simp [callFunc, hf, h1, h2]
  unfold Oper.wp
  rw [e]
  simp only [Oper.upon]
  refine h.mono ?_
  rintro e' w' ⟨v, rfl, hv⟩
  exact hv
end
end Go.Proofs.YteabdojjllfcpaaGreat
