/-
  Regions that draw their order and whose operations only make memory: of each operation a predicate tells what it yields, and stays true as memory grows; one look at each operation serves every order.
-/
import Derived.Test.YtdioaohejoflcaaDoorM1
import Derived.Orders
import Derived.Test.YtdioaohejoflcaaDoorM2
import Derived.BigCall
import Derived.StillTail
namespace Go.Proofs.YtdioaohejoflcaaDoor
open Go.RowKit

abbrev Tell := Value → World → Prop
/-- A predicate that stays true as memory grows. -/
def Tell.stable (R : Tell) : Prop := ∀ v w w', Kp [] w w' → R v w → R v w'

def grown (P : Program) (w : World) (R : Tell) : Result Next → Prop
  | .ok (.value v) w' => Kp [] w w' ∧ R v w'
  | .ok .skip w' => Kp [] w w' ∧ R undef w'
  | .ok (.enter f args) w' => Calls P f args w' fun e w'' => ∃ v, e = .returned v ∧ Kp [] w w'' ∧ R v w''
  | _ => False

/-- What one operation must do. -/
def wants (P : Program) (ops : Array Oper) (o : Oper) (a : Act) (w : World) (R : Tell) : Prop :=
  if Region.wanted o (yielded ops a.tmps) then grown P w R ((execOp a.eval o).run P w) else R undef w

/-- What is known of the slots that an operation looks at: what their writer tells, or what stood there. -/
def Knows (a0 : Act) (Rs : List Tell) (a : Act) (w : World) : List (Tmp × Option Nat) → Prop
  | [] => True
  | (t, some j) :: ks => (Rs.getD j (fun _ _ => True)) (a.eval (.tmp t)) w ∧ Knows a0 Rs a w ks
  | (t, none) :: ks => a.eval (.tmp t) = a0.eval (.tmp t) ∧ Knows a0 Rs a w ks

def StepsR (P : Program) (ops : Array Oper) (a0 : Act) (w0 : World) (Rs : List Tell) : List Oper → List (List (Tmp × Option Nat)) → List Tell → Prop
  | o :: l, ks :: kss, R :: rs => (∀ a w, Kp [] w0 w → Knows a0 Rs a w ks → wants P ops o a w R) ∧ StepsR P ops a0 w0 Rs l kss rs
  | [], [], [] => True
  | _, _, _ => False

def FinR (Q : Exit → Act → World → Prop) : List Oper → List Tell → Act → World → Prop
  | o :: l, R :: rs, a, w => ∀ v, R v w → FinR Q l rs (a.put o.dst v) w
  | _, _, a, w => Q .normal a w

/-- The edges that bind in every mode. -/
def odeps (o : Oper) : List Nat := (o.after.toList.filter (Region.binds .any)).map (·.on)
def dstAt (l : List Oper) (j : Nat) : Option Tmp := (l[j]?).bind (·.dst)
def lookOk (l : List Oper) (i : Nat) (o : Oper) : Tmp × Option Nat → Bool
  | (t, some j) => (odeps o).contains j && dstAt l j == some t
  | (t, none) => (List.range l.length).all fun k => k == i || dstAt l k != some t || ((l[k]?).map fun ok => (odeps ok).contains i).getD false
def regionOk (l : List Oper) (kss : List (List (Tmp × Option Nat))) (n : Nat) : Bool :=
  (List.range l.length).all fun i =>
    match l[i]?, kss[i]? with
    | some o, some ks => (odeps o).all (· < i) && ks.all (lookOk l i o) && (match o.dst with | some d => decide (d < n) && (List.range i).all (fun k => dstAt l k != some d) | none => false)
    | _, _ => false

section
variable {P : Program} {l : List Oper} {Q : Exit → Act → World → Prop} {a0 : Act} {w0 : World} {Rs : List Tell} {kss : List (List (Tmp × Option Nat))} {n i : Nat} {listed : Array Bool} {a : Act} {w w' : World} {o : Oper} {R : Tell} {v : Value}

theorem StepsR.at (ops : Array Oper) : ∀ {l : List Oper} {kss : List (List (Tmp × Option Nat))} {rs : List Tell}, StepsR P ops a0 w0 Rs l kss rs → l.length = rs.length ∧ l.length = kss.length ∧ ∀ (i : Nat) o ks R, l[i]? = some o → kss[i]? = some ks → rs[i]? = some R → ∀ a w, Kp [] w0 w → Knows a0 Rs a w ks → wants P ops o a w R
  | [], [], [], _ => ⟨rfl, rfl, fun i o ks R h => by simp at h⟩
  | o :: l, ks :: kss, R :: rs, h => by
    obtain ⟨h1, h2, h3⟩ := StepsR.at ops h.2
    refine ⟨by simp [h1], by simp [h2], fun i o' ks' R' ho hk hR => ?_⟩
    cases i with
    | zero =>
      simp at ho hk hR
      subst ho; subst hk; subst hR
      exact h.1
    | succ i => exact h3 i o' ks' R' (by simpa using ho) (by simpa using hk) (by simpa using hR)
  | [], [], _ :: _, h => h.elim
  | [], _ :: _, [], h => h.elim
  | [], _ :: _, _ :: _, h => h.elim
  | _ :: _, [], [], h => h.elim
  | _ :: _, [], _ :: _, h => h.elim
  | _ :: _, _ :: _, [], h => h.elim

structure InvR (l : List Oper) (Rs : List Tell) (a0 : Act) (w0 : World) (listed : Array Bool) (a : Act) (w : World) : Prop where
  kp : Kp [] w0 w
  size : a.tmps.size = a0.tmps.size
  defers : a.defers = a0.defers
  ls : listed.size = l.length
  told : ∀ i d R, listed.getD i false = true → dstAt l i = some d → Rs[i]? = some R → R (a.eval (.tmp d)) w
  rest : ∀ t, (∀ i, listed.getD i false = true → dstAt l i ≠ some t) → a.eval (.tmp t) = a0.eval (.tmp t)
  closed : ∀ i o, l[i]? = some o → listed.getD i false = true → ∀ j ∈ odeps o, listed.getD j false = true

theorem mem_deps {o : Oper} {j : Nat} : j ∈ odeps o ↔ ∃ e ∈ o.after, Region.binds .any e = true ∧ e.on = j := by
  unfold odeps
  simp only [List.mem_map, List.mem_filter, Array.mem_toList_iff]
  constructor
  · rintro ⟨e, ⟨h1, h2⟩, h3⟩; exact ⟨e, h1, h2, h3⟩
  · rintro ⟨e, h1, h2, h3⟩; exact ⟨e, ⟨h1, h2⟩, h3⟩

theorem eval_put_same {a : Act} {d : Tmp} {v : Value} (h : d < a.tmps.size) : (a.put (some d) v).eval (.tmp d) = v := by
  simp [Act.put, Act.eval, h]
theorem eval_put_ne {a : Act} {d t : Tmp} {v : Value} (h : d ≠ t) : (a.put (some d) v).eval (.tmp t) = a.eval (.tmp t) := by
  simp [Act.put, Act.eval, Array.getElem?_setIfInBounds_ne h]

theorem regionOk_at (h : regionOk l kss n = true) {i : Nat} {o : Oper} (ho : l[i]? = some o) : ∃ ks d, kss[i]? = some ks ∧ o.dst = some d ∧ d < n ∧ (∀ j ∈ odeps o, j < i) ∧ (∀ k ∈ ks, lookOk l i o k = true) ∧ ∀ k, k < i → dstAt l k ≠ some d := by
  have hi : i < l.length := (List.getElem?_eq_some_iff.1 ho).1
  have h1 := List.all_eq_true.1 h i (List.mem_range.2 hi)
  simp only [ho] at h1
  cases hk : kss[i]? with
  | none => simp [hk] at h1
  | some ks =>
    simp only [hk] at h1
    cases hd : o.dst with
    | none => simp [hd] at h1
    | some d =>
      simp only [hd, Bool.and_eq_true, List.all_eq_true, decide_eq_true_eq, List.mem_range, bne_iff_ne, ne_eq] at h1
      obtain ⟨⟨h2, h3⟩, h4, h5⟩ := h1
      exact ⟨ks, d, rfl, rfl, h4, h2, h3, h5⟩

theorem dst_inj (h : regionOk l kss n = true) {i j : Nat} {d : Tmp} (hi : dstAt l i = some d) (hj : dstAt l j = some d) : i = j := by
  have key : ∀ i j, i < j → dstAt l i = some d → dstAt l j = some d → False := by
    intro i j hij hi hj
    unfold dstAt at hj
    cases ho : l[j]? with
    | none => simp [ho] at hj
    | some o =>
      simp only [ho, Option.bind_some] at hj
      obtain ⟨ks, d', _, h2, _, _, _, h6⟩ := regionOk_at h ho
      rw [hj] at h2
      cases h2
      exact h6 i hij hi
  rcases Nat.lt_trichotomy i j with h1 | h1 | h1
  · exact (key i j h1 hi hj).elim
  · exact h1
  · exact (key j i h1 hj hi).elim

theorem knows_of (hinv : InvR l Rs a0 w0 listed a w) (hr : i ∈ Region.ready .any l.toArray listed) (ho : l[i]? = some o) (hlen : l.length = Rs.length) : ∀ ks : List (Tmp × Option Nat), (∀ k ∈ ks, lookOk l i o k = true) → Knows a0 Rs a w ks
  | [], _ => trivial
  | (t, some j) :: ks, h => by
    refine ⟨?_, knows_of hinv hr ho hlen ks (fun k hk => h k (by simp [hk]))⟩
    have h1 := h (t, some j) (by simp)
    simp only [lookOk, Bool.and_eq_true, List.contains_iff_mem, beq_iff_eq] at h1
    obtain ⟨hd, hdst⟩ := h1
    obtain ⟨e, he, hb, rfl⟩ := mem_deps.1 hd
    obtain ⟨_, o', ho', hall⟩ := mem_ready.1 hr
    have : o' = o := by have := ho'; rw [List.getElem?_toArray, ho] at this; exact (Option.some.inj this).symm
    subst this
    have hl := hall e he hb
    have hlt : e.on < Rs.length := by
      unfold dstAt at hdst
      cases hx : l[e.on]? with
      | none => simp [hx] at hdst
      | some _ => rw [← hlen]; exact (List.getElem?_eq_some_iff.1 hx).1
    rw [List.getD_eq_getElem?_getD, List.getElem?_eq_getElem hlt, Option.getD_some]
    exact hinv.told e.on t _ hl hdst (List.getElem?_eq_getElem hlt)
  | (t, none) :: ks, h => by
    refine ⟨?_, knows_of hinv hr ho hlen ks (fun k hk => h k (by simp [hk]))⟩
    have h1 := h (t, none) (by simp)
    simp only [lookOk, List.all_eq_true, List.mem_range, Bool.or_eq_true, beq_iff_eq, bne_iff_ne, ne_eq] at h1
    refine hinv.rest t (fun k hk hkd => ?_)
    have hnot : listed.getD i false = false := by
      have h0 := (mem_ready.1 hr).1
      rcases Nat.lt_or_ge i listed.size with h' | h'
      · simp [h'] at h0 ⊢; exact h0
      · simp [Array.getElem?_eq_none h']
    have hlt : k < l.length := by
      unfold dstAt at hkd
      cases hx : l[k]? with
      | none => simp [hx] at hkd
      | some _ => exact (List.getElem?_eq_some_iff.1 hx).1
    rcases h1 k hlt with (h2 | h2) | h2
    · subst h2; rw [hk] at hnot; cases hnot
    · exact h2 hkd
    · rw [List.getElem?_eq_getElem hlt] at h2
      simp only [Option.map_some, Option.getD_some, List.contains_iff_mem] at h2
      have := hinv.closed k _ (List.getElem?_eq_getElem hlt) hk i h2
      rw [this] at hnot; cases hnot

theorem fin_of (hok : regionOk l kss a0.tmps.size = true) (hlen : l.length = Rs.length) (hinv : InvR l Rs a0 w0 listed a w) (hall : ∀ i, i < l.length → listed.getD i false = true) :
    ∀ (m : List Oper) (rs : List Tell) (k : Nat) (b : Act), (∀ j, m[j]? = l[k + j]?) → (∀ j, rs[j]? = Rs[k + j]?) → b.tmps.size = a0.tmps.size → b.defers = a0.defers →
    (∀ t, (∀ j d, dstAt l (k + j) = some d → d ≠ t) → b.eval (.tmp t) = a.eval (.tmp t)) → FinR Q m rs b w → Q .normal a w
  | [], rs, k, b, hm, hrs, hbs, hbd, heq, h => by
    have hb : b = a := by
      cases b with
      | mk bt bd =>
        cases a with
        | mk at_ ad =>
          have e1 : bt.size = at_.size := hbs.trans hinv.size.symm
          have e2 : bd = ad := hbd.trans hinv.defers.symm
          subst e2
          congr 1
          refine Array.ext e1 (fun i h1 h2 => ?_)
          have := heq i (fun j d hd => by
            unfold dstAt at hd
            rw [← hm j] at hd
            simp at hd)
          simpa [Act.eval, h1, h2] using this
    subst hb
    cases rs <;> exact h
  | o :: m, [], k, b, hm, hrs, _, _, _, _ => by
    have h1 := hm 0
    have h2 := hrs 0
    simp only [List.getElem?_cons_zero, Nat.add_zero, List.getElem?_nil] at h1 h2
    have h3 : k < l.length := (List.getElem?_eq_some_iff.1 h1.symm).1
    have h4 := List.getElem?_eq_none_iff.1 h2.symm
    omega
  | o :: m, R :: rs, k, b, hm, hrs, hbs, hbd, heq, h => by
    have h1 : l[k]? = some o := by simpa using (hm 0).symm
    have h2 : Rs[k]? = some R := by simpa using (hrs 0).symm
    have h3 : k < l.length := (List.getElem?_eq_some_iff.1 h1).1
    obtain ⟨ks, d, _, hd, hdn, _, _, _⟩ := regionOk_at hok h1
    have hdk : dstAt l k = some d := by unfold dstAt; simp [h1, hd]
    have hR := hinv.told k d R (hall k h3) hdk h2
    refine fin_of hok hlen hinv hall m rs (k + 1) (b.put o.dst (a.eval (.tmp d))) (fun j => ?_) (fun j => ?_) ?_ ?_ ?_ (h _ hR)
    · have := hm (j + 1); simpa [Nat.add_assoc, Nat.add_comm 1 j] using this
    · have := hrs (j + 1); simpa [Nat.add_assoc, Nat.add_comm 1 j] using this
    · rw [hd]; simpa [Act.put] using hbs
    · rw [hd]; simpa [Act.put] using hbd
    · intro t ht
      rw [hd]
      by_cases htd : d = t
      · subst htd
        exact eval_put_same (by rw [hbs]; exact hdn)
      · rw [eval_put_ne htd]
        refine heq t (fun j d' hj => ?_)
        cases j with
        | zero => rw [Nat.add_zero, hdk] at hj; cases hj; exact htd
        | succ j => exact ht j d' (by rw [← hj]; congr 1; omega)

theorem inv_step (hok : regionOk l kss a0.tmps.size = true) (hst : ∀ R ∈ Rs, Tell.stable R) (hinv : InvR l Rs a0 w0 listed a w) (hr : i ∈ Region.ready .any l.toArray listed) (ho : l[i]? = some o) (hR : Rs[i]? = some R)
    (hk : Kp [] w w') (hv : R v w') : InvR l Rs a0 w0 (listed.setIfInBounds i true) (a.put o.dst v) w' := by
  obtain ⟨ks, d, _, hd, hdn, _, _, _⟩ := regionOk_at hok ho
  have hdi : dstAt l i = some d := by unfold dstAt; simp [ho, hd]
  have hget : ∀ j, (listed.setIfInBounds i true).getD j false = true → j = i ∨ listed.getD j false = true := fun j hj => by
    by_cases hij : i = j
    · exact .inl hij.symm
    · rw [getD_set_ne false hij] at hj; exact .inr hj
  rw [hd]
  refine ⟨hinv.kp.trans hk, ?_, ?_, ?_, ?_, ?_, ?_⟩
  · simpa [Act.put] using hinv.size
  · simpa [Act.put] using hinv.defers
  · simpa using hinv.ls
  · intro j dj Rj hj hdj hRj
    by_cases hji : j = i
    · subst hji
      rw [hdi] at hdj; cases hdj
      rw [hR] at hRj; cases hRj
      rw [eval_put_same (by rw [hinv.size]; exact hdn)]
      exact hv
    · have hl := (hget j hj).resolve_left hji
      have hne : d ≠ dj := fun e => hji (dst_inj hok (e ▸ hdj) hdi)
      rw [eval_put_ne hne]
      exact hst Rj (List.mem_of_getElem? hRj) _ _ _ hk (hinv.told j dj Rj hl hdj hRj)
  · intro t ht
    have hlt : i < listed.size := by rw [hinv.ls]; exact (List.getElem?_eq_some_iff.1 ho).1
    have hne : d ≠ t := fun e => ht i (by simp [hlt]) (e ▸ hdi)
    rw [eval_put_ne hne]
    refine hinv.rest t (fun j hj => ht j ?_)
    exact getD_set_true hj
  · intro j oj hoj hj k hk'
    rcases hget j hj with h1 | h1
    · subst h1
      rw [ho] at hoj; cases hoj
      obtain ⟨e, he, hb, rfl⟩ := mem_deps.1 hk'
      obtain ⟨_, o', ho', hall⟩ := mem_ready.1 hr
      have : o' = o := by have := ho'; rw [List.getElem?_toArray, ho] at this; exact (Option.some.inj this).symm
      subst this
      exact getD_set_true (hall e he hb)
    · exact getD_set_true (hinv.closed j oj hoj h1 k hk')

theorem all_listed (hok : regionOk l kss n = true) (hinv : InvR l Rs a0 w0 listed a w) (hr : Region.ready .any l.toArray listed = []) : ∀ i, i < l.length → listed.getD i false = true := by
  intro i
  induction i using Nat.strongRecOn with
  | _ i ih =>
    intro hi
    cases hc : listed.getD i false with
    | true => rfl
    | false =>
      have ho : l[i]? = some l[i] := List.getElem?_eq_getElem hi
      obtain ⟨_, _, _, _, _, hdeps, _, _⟩ := regionOk_at hok ho
      have : i ∈ Region.ready .any l.toArray listed := by
        rw [mem_ready]
        refine ⟨?_, l[i], by rw [List.getElem?_toArray]; exact ho, fun e he hb => ?_⟩
        · have hls : i < listed.size := by rw [hinv.ls]; exact hi
          simp [hls] at hc ⊢; exact hc
        · have hm : e.on ∈ odeps l[i] := mem_deps.2 ⟨e, he, hb, rfl⟩
          exact ih e.on (hdeps _ hm) (Nat.lt_trans (hdeps _ hm) hi)
      rw [hr] at this
      cases this

theorem wpAny_grow (hok : regionOk l kss a0.tmps.size = true) (hst : ∀ R ∈ Rs, Tell.stable R) (hs : StepsR P l.toArray a0 w0 Rs l kss Rs) (hf : ∀ w', Kp [] w0 w' → FinR Q l Rs a0 w') :
    ∀ (fuel : Nat) (listed : Array Bool) (a : Act) (w : World), InvR l Rs a0 w0 listed a w → listed.toList.count false = fuel → wpAny P .any l.toArray Q fuel listed a w := by
  obtain ⟨hlen, _, hat⟩ := StepsR.at _ hs
  have hend : ∀ (listed : Array Bool) (a : Act) (w : World), InvR l Rs a0 w0 listed a w → Region.ready .any l.toArray listed = [] → Q .normal a w := fun listed a w hinv hr =>
    fin_of hok hlen hinv (all_listed hok hinv hr) l Rs 0 a0 (by simp) (by simp) rfl rfl (fun t ht => (hinv.rest t (fun i _ hd => ht i t (by rw [Nat.zero_add]; exact hd) rfl)).symm) (hf w hinv.kp)
  intro fuel
  induction fuel with
  | zero =>
    intro listed a w hinv hc
    have hr : Region.ready .any l.toArray listed = [] := by
      refine List.eq_nil_iff_forall_not_mem.2 (fun j hj => ?_)
      have h0 := (mem_ready.1 hj).1
      have h1 := List.count_eq_zero.1 hc
      rcases Nat.lt_or_ge j listed.size with h' | h'
      · simp [h'] at h0
        exact h1 (by rw [← h0]; simp)
      · simp [Array.getElem?_eq_none h'] at h0
    exact ⟨hr, hend listed a w hinv hr⟩
  | succ fuel ih =>
    intro listed a w hinv hc
    refine ⟨hend listed a w hinv, fun i hi => ?_⟩
    obtain ⟨hun, o, ho', hall⟩ := mem_ready.1 hi
    have ho : l[i]? = some o := by rw [← List.getElem?_toArray]; exact ho'
    have hilt : i < l.length := (List.getElem?_eq_some_iff.1 ho).1
    obtain ⟨ks, d, hks, hd, hdn, _, hlk, _⟩ := regionOk_at hok ho
    have hR : Rs[i]? = some Rs[i] := List.getElem?_eq_getElem (by omega)
    have hw := hat i o ks Rs[i] ho hks hR a w hinv.kp (knows_of hinv hi ho hlen ks hlk)
    have hcnt : (listed.setIfInBounds i true).toList.count false = fuel := by
      have hls : i < listed.size := by rw [hinv.ls]; exact hilt
      have hg : listed.toList[i]'(by simpa using hls) = false := by simpa [hls] using hun
      rw [Array.toList_setIfInBounds, List.count_set (by simpa using hls), hg, hc]
      simp
    have next : ∀ v w', Kp [] w w' → Rs[i] v w' → wpAny P .any l.toArray Q fuel (listed.setIfInBounds i true) (a.put o.dst v) w' := fun v w' hk hv =>
      ih _ _ _ (inv_step hok hst hinv hi ho hR hk hv) hcnt
    unfold wants at hw
    unfold wpOp
    simp only [ho']
    split
    · rename_i hwn
      rw [if_pos hwn] at hw
      refine .inl ?_
      unfold Oper.wp
      generalize (execOp a.eval o).run P w = r at *
      cases r with
      | ok x w' =>
        cases x <;> simp only [grown] at hw <;> simp only [Oper.upon]
        case value v => exact next v w' hw.1 hw.2
        case skip => exact next undef w' hw.1 hw.2
        case enter f args =>
          refine hw.mono ?_
          rintro e w'' ⟨v, rfl, h1, h2⟩
          exact next v w'' h1 h2
      | halt x w' => simp only [grown] at hw
    · rename_i hwn
      rw [if_neg hwn] at hw
      exact next undef w (Kp.refl _ _) hw

/-- **One look at each operation serves every order.** -/
theorem region_grow {id : Nat} {w : World} (hm : P.follows .mixedOrders = true) (Rs : List Tell) (kss : List (List (Tmp × Option Nat))) (hok : regionOk l kss a0.tmps.size = true) (hst : ∀ R ∈ Rs, Tell.stable R)
    (hs : StepsR P l.toArray a0 w.drew Rs l kss Rs) (hf : ∀ w', Kp [] w.drew w' → FinR Q l Rs a0 w') : (Code.region id l.toArray true).wp P Q a0 w := by
  refine wp_region_any hm ?_
  refine wpAny_grow (w0 := w.drew) hok hst hs hf _ _ _ _ ⟨Kp.refl _ _, rfl, rfl, by simp, fun i d R h => ?_, fun _ _ => rfl, fun i o _ h => ?_⟩ ?_
  · exfalso; revert h; simp only [Array.getD_eq_getD_getElem?, Array.getElem?_replicate]; split <;> simp
  · exfalso; revert h; simp only [Array.getD_eq_getD_getElem?, Array.getElem?_replicate]; split <;> simp
  · simp
end
end Go.Proofs.YtdioaohejoflcaaDoor

/-
  Single operations of a region that only makes memory.
-/
namespace Go.Proofs.YtdioaohejoflcaaDoor
open Go.RowKit

/-- The value is c. -/
def Is (c : Value) : Tell := fun v _ => v = c
/-- The value is a slice that reads as these bytes. -/
def SlT (bs : List Int) : Tell := fun v w => Sl w v bs
theorem stable_is (c : Value) : Tell.stable (Is c) := fun _ _ _ _ h => h
theorem stable_sl (bs : List Int) : Tell.stable (SlT bs) := fun _ _ _ k h => h.kept k (by simp)

section
variable {P : Program} {ops : Array Oper} {o : Oper} {a : Act} {w : World} {R : Tell}
theorem wants_plain (hg : o.guard = none) (h : grown P w R ((execOp a.eval o).run P w)) : wants P ops o a w R := by
  unfold wants
  rw [if_pos (by simp [Region.wanted, hg])]
  exact h
theorem wanted_iff {g : Nat} {b b' : Bool} {d : Tmp} (hg : o.guard = some (g, b)) (hd : (ops[g]?).bind (·.dst) = some d) (he : a.eval (.tmp d) = .bool b') : Region.wanted o (yielded ops a.tmps) = (b' == b) := by
  have h1 : a.tmps[d]? = some (.bool b') := by
    rcases Nat.lt_or_ge d a.tmps.size with h | h
    · simp [Act.eval, h] at he ⊢; exact he
    · simp [Act.eval, Array.getElem?_eq_none h, undef] at he
  have h2 : yielded ops a.tmps g = some b' := by
    unfold yielded
    rw [hd]
    simp only [Option.bind_some, h1]
  simp only [Region.wanted, hg, h2]
  cases b <;> cases b' <;> rfl
theorem wants_guard {g : Nat} {b : Bool} {d : Tmp} (hg : o.guard = some (g, b)) (hd : (ops[g]?).bind (·.dst) = some d) (he : a.eval (.tmp d) = .bool b) (h : grown P w R ((execOp a.eval o).run P w)) : wants P ops o a w R := by
  unfold wants
  rw [if_pos (by rw [wanted_iff hg hd he]; simp)]
  exact h
theorem wants_not {g : Nat} {b : Bool} {d : Tmp} (hg : o.guard = some (g, b)) (hd : (ops[g]?).bind (·.dst) = some d) (he : a.eval (.tmp d) = .bool (!b)) (h : R undef w) : wants P ops o a w R := by
  unfold wants
  rw [if_neg (by rw [wanted_iff hg hd he]; cases b <;> simp)]
  exact h
theorem grown_move (x : Operand) (ho : o.op = .move x) (h : R (a.eval x) w) : grown P w R ((execOp a.eval o).run P w) := by
  unfold execOp; simp only [ho]; exact ⟨Kp.refl _ _, h⟩
theorem grown_assign (x : Operand) (ho : o.op = .assign x) (h : R (a.eval x) w) : grown P w R ((execOp a.eval o).run P w) := by
  unfold execOp; simp only [ho]; exact ⟨Kp.refl _ _, h⟩
theorem grown_pick (c x y : Operand) (b : Bool) (ho : o.op = .pick c x y) (hc : a.eval c = .bool b) (h : R (if b then a.eval x else a.eval y) w) : grown P w R ((execOp a.eval o).run P w) := by
  unfold execOp; simp only [ho, hc, asBool]; exact ⟨Kp.refl _ _, h⟩
theorem grown_run {v : Value} {w' : World} (h : (execOp a.eval o).run P w = .ok (.value v) w') (hk : Kp [] w w') (hR : R v w') : grown P w R ((execOp a.eval o).run P w) := by
  rw [h]; exact ⟨hk, hR⟩
theorem grown_conv (x : Operand) (src dst e : TypeId) (bs : List Int) (ho : o.op = .convert src dst x) (hS : Sl w (a.eval x) bs) (hs : P.underlying src = some (.slice e)) (he : P.underlying e = some (.int .u8)) (hd : P.underlying dst = some .string) (hR : R (.string (strOfNums bs)) w) : grown P w R ((execOp a.eval o).run P w) := by
  refine grown_run ?_ (Kp.refl _ _) hR
  unfold execOp
  simp only [ho, Sem.run_bind, hS.conv src dst e hs he hd, Result.andThen_ok, Sem.run_pure]
theorem grown_call {f : FuncId} {fn : Func} {xs : Array Operand} {ats : Array TypeId} (ho : o.op = .call { callee := .value (.func f), args := xs, argTypes := ats }) (hf : P.funcs[f]? = some fn) (hn : (fn.name == "runtime.NumGoroutine") = false) (hb : fn.body.isNone = false)
    (h : Calls P f (xs.map a.eval) w fun e w' => ∃ v, e = .returned v ∧ Kp [] w w' ∧ R v w') : grown P w R ((execOp a.eval o).run P w) := by
  have e : (execOp a.eval o).run P w = .ok (.enter f (xs.map a.eval)) w := by
    obtain ⟨dst, op, ty, pos, after, guard⟩ := o
    simp only at ho
    subst ho
    rw [execOp_call_go]
    have h1 : fn.name ≠ "runtime.NumGoroutine" := by simpa using hn
    have h2 : ¬ fn.body = none := by intro h2; rw [h2] at hb; cases hb
    simp [callFunc, hf, h1, h2]
  rw [e]
  exact h
end
theorem steps_cons {P : Program} {ops : Array Oper} {a0 : Act} {w0 : World} {Rs : List Tell} {o : Oper} {l : List Oper} {ks : List (Tmp × Option Nat)} {kss : List (List (Tmp × Option Nat))} {R : Tell} {rs : List Tell}
    (h1 : ∀ a w, Kp [] w0 w → Knows a0 Rs a w ks → wants P ops o a w R) (h2 : StepsR P ops a0 w0 Rs l kss rs) : StepsR P ops a0 w0 Rs (o :: l) (ks :: kss) (R :: rs) := ⟨h1, h2⟩
theorem fin_nil {Q : Exit → Act → World → Prop} {a : Act} {w : World} (h : Q .normal a w) : FinR Q [] [] a w := h
theorem eval_is (a : Act) : ∃ ρ : Operand → Value, a.eval = ρ ∧ (∀ v, ρ (.const v) = v) ∧ (∀ f, ρ (.func f) = .func (.func f) #[] #[]) ∧ ∀ g, ρ (.global g) = .pointer (some ⟨g, 0, none⟩) := ⟨_, rfl, fun _ => rfl, fun _ => rfl, fun _ => rfl⟩
end Go.Proofs.YtdioaohejoflcaaDoor

/-
  Regions that draw their order, whose first operations only make memory and all come ahead of the rest: one look at each of the first serves every order; what is left is walked behind them.
-/
namespace Go.Proofs.YtdioaohejoflcaaDoor
open Go.RowKit

section
variable {P : Program} {m : List Oper} {ops : Array Oper} {Q : Exit → Act → World → Prop} {a0 : Act} {w0 : World} {Rs : List Tell} {kss : List (List (Tmp × Option Nat))} {n i : Nat} {listed : Array Bool} {a : Act} {w w' : World} {o : Oper} {R : Tell} {v : Value}

/-- The head m of the operations ops: what is listed of it so far. -/
structure InvT (m : List Oper) (ops : Array Oper) (Rs : List Tell) (a0 : Act) (w0 : World) (listed : Array Bool) (a : Act) (w : World) : Prop where
  kp : Kp [] w0 w
  size : a.tmps.size = a0.tmps.size
  defers : a.defers = a0.defers
  told : ∀ i d R, listed.getD i false = true → dstAt m i = some d → Rs[i]? = some R → R (a.eval (.tmp d)) w
  rest : ∀ t, (∀ i, listed.getD i false = true → dstAt m i ≠ some t) → a.eval (.tmp t) = a0.eval (.tmp t)
  head : HeadInv .any ops m.length listed

theorem InvT.closed (hsub : ∀ (i : Nat) o, m[i]? = some o → ops[i]? = some o) (hinv : InvT m ops Rs a0 w0 listed a w) : ∀ (i : Nat) o, m[i]? = some o → listed.getD i false = true → ∀ j ∈ odeps o, listed.getD j false = true := by
  intro i o ho hl j hj
  obtain ⟨e, he, hb, rfl⟩ := mem_deps.1 hj
  exact hinv.head.closed i o (hsub i o ho) hl e he hb

theorem knows_ofT (hsub : ∀ (i : Nat) o, m[i]? = some o → ops[i]? = some o) (hinv : InvT m ops Rs a0 w0 listed a w) (hr : i ∈ Region.ready .any ops listed) (ho : m[i]? = some o) (hlen : m.length = Rs.length) : ∀ ks : List (Tmp × Option Nat), (∀ k ∈ ks, lookOk m i o k = true) → Knows a0 Rs a w ks
  | [], _ => trivial
  | (t, some j) :: ks, h => by
    refine ⟨?_, knows_ofT hsub hinv hr ho hlen ks (fun k hk => h k (by simp [hk]))⟩
    have h1 := h (t, some j) (by simp)
    simp only [lookOk, Bool.and_eq_true, List.contains_iff_mem, beq_iff_eq] at h1
    obtain ⟨hd, hdst⟩ := h1
    obtain ⟨e, he, hb, rfl⟩ := mem_deps.1 hd
    obtain ⟨_, o', ho', hall⟩ := mem_ready.1 hr
    have : o' = o := by rw [hsub i o ho] at ho'; exact (Option.some.inj ho').symm
    subst this
    have hl := hall e he hb
    have hlt : e.on < Rs.length := by
      unfold dstAt at hdst
      cases hx : m[e.on]? with
      | none => simp [hx] at hdst
      | some _ => rw [← hlen]; exact (List.getElem?_eq_some_iff.1 hx).1
    rw [List.getD_eq_getElem?_getD, List.getElem?_eq_getElem hlt, Option.getD_some]
    exact hinv.told e.on t _ hl hdst (List.getElem?_eq_getElem hlt)
  | (t, none) :: ks, h => by
    refine ⟨?_, knows_ofT hsub hinv hr ho hlen ks (fun k hk => h k (by simp [hk]))⟩
    have h1 := h (t, none) (by simp)
    simp only [lookOk, List.all_eq_true, List.mem_range, Bool.or_eq_true, beq_iff_eq, bne_iff_ne, ne_eq] at h1
    refine hinv.rest t (fun k hk hkd => ?_)
    have hnot : listed.getD i false = false := getD_both (mem_ready.1 hr).1
    have hlt : k < m.length := by
      unfold dstAt at hkd
      cases hx : m[k]? with
      | none => simp [hx] at hkd
      | some _ => exact (List.getElem?_eq_some_iff.1 hx).1
    rcases h1 k hlt with (h2 | h2) | h2
    · subst h2; rw [hk] at hnot; cases hnot
    · exact h2 hkd
    · rw [List.getElem?_eq_getElem hlt] at h2
      simp only [Option.map_some, Option.getD_some, List.contains_iff_mem] at h2
      have := hinv.closed hsub k _ (List.getElem?_eq_getElem hlt) hk i h2
      rw [this] at hnot; cases hnot

theorem inv_stepT (hsub : ∀ (i : Nat) o, m[i]? = some o → ops[i]? = some o) (hok : regionOk m kss a0.tmps.size = true) (hst : ∀ R ∈ Rs, Tell.stable R) (hinv : InvT m ops Rs a0 w0 listed a w) (hr : i ∈ Region.ready .any ops listed) (ho : m[i]? = some o) (hR : Rs[i]? = some R)
    (hk : Kp [] w w') (hv : R v w') : InvT m ops Rs a0 w0 (listed.setIfInBounds i true) (a.put o.dst v) w' := by
  obtain ⟨ks, d, _, hd, hdn, _, _, _⟩ := regionOk_at hok ho
  have hdi : dstAt m i = some d := by unfold dstAt; simp [ho, hd]
  have hilt : i < m.length := (List.getElem?_eq_some_iff.1 ho).1
  have hget : ∀ j, (listed.setIfInBounds i true).getD j false = true → j = i ∨ listed.getD j false = true := fun j hj => by
    by_cases hij : i = j
    · exact .inl hij.symm
    · rw [getD_set_ne false hij] at hj; exact .inr hj
  have hlt : i < listed.size := by rw [hinv.head.size]; exact (Array.getElem?_eq_some_iff.1 (hsub i o ho)).1
  rw [hd]
  refine ⟨hinv.kp.trans hk, ?_, ?_, ?_, ?_, hinv.head.set hr hilt⟩
  · simpa [Act.put] using hinv.size
  · simpa [Act.put] using hinv.defers
  · intro j dj Rj hj hdj hRj
    by_cases hji : j = i
    · subst hji
      rw [hdi] at hdj; cases hdj
      rw [hR] at hRj; cases hRj
      rw [eval_put_same (by rw [hinv.size]; exact hdn)]
      exact hv
    · have hl := (hget j hj).resolve_left hji
      have hne : d ≠ dj := fun e => hji (dst_inj hok (e ▸ hdj) hdi)
      rw [eval_put_ne hne]
      exact hst Rj (List.mem_of_getElem? hRj) _ _ _ hk (hinv.told j dj Rj hl hdj hRj)
  · intro t ht
    have hne : d ≠ t := fun e => ht i (by simp [hlt]) (e ▸ hdi)
    rw [eval_put_ne hne]
    refine hinv.rest t (fun j hj => ht j ?_)
    exact getD_set_true hj

theorem fin_ofT {K : Act → World → Prop} (hok : regionOk m kss a0.tmps.size = true) (hlen : m.length = Rs.length) (hinv : InvT m ops Rs a0 w0 listed a w) (hall : ∀ i, i < m.length → listed.getD i false = true) (hf : FinR (fun _ a w => K a w) m Rs a0 w) : K a w := by
  have hlt : ∀ i d, dstAt m i = some d → i < m.length := fun i d hd => by
    unfold dstAt at hd
    cases hx : m[i]? with
    | none => simp [hx] at hd
    | some _ => exact (List.getElem?_eq_some_iff.1 hx).1
  have hre : ∀ i, i < m.length → (Array.replicate m.length true).getD i false = true := fun i hi => by simp [hi]
  refine fin_of (l := m) (Q := fun _ a w => K a w) (listed := Array.replicate m.length true) hok hlen ⟨hinv.kp, hinv.size, hinv.defers, by simp, fun i d R _ hd hR => hinv.told i d R (hall i (hlt i d hd)) hd hR, fun t ht => hinv.rest t (fun i _ hd => ht i (hre i (hlt i t hd)) hd), fun i o ho _ j hj => ?_⟩
    hre m Rs 0 a0 (by simp) (by simp) rfl rfl (fun t ht => (hinv.rest t (fun i _ hd => ht i t (by rw [Nat.zero_add]; exact hd) rfl)).symm) hf
  obtain ⟨ks, d, _, _, _, hdep, _, _⟩ := regionOk_at hok ho
  exact hre j (Nat.lt_trans (hdep j hj) (List.getElem?_eq_some_iff.1 ho).1)

theorem headReady (hsub : ∀ (i : Nat) o, m[i]? = some o → ops[i]? = some o) (hok : regionOk m kss n = true) (hinv : HeadInv .any ops m.length listed) (hno : ∀ i, i < m.length → i ∉ Region.ready .any ops listed) : ∀ i, i < m.length → listed.getD i false = true := by
  intro i
  induction i using Nat.strongRecOn with
  | _ i ih =>
    intro hi
    cases hc : listed.getD i false with
    | true => rfl
    | false =>
      have ho : m[i]? = some m[i] := List.getElem?_eq_getElem hi
      obtain ⟨_, _, _, _, _, hdeps, _, _⟩ := regionOk_at hok ho
      refine absurd ?_ (hno i hi)
      rw [mem_ready]
      refine ⟨?_, m[i], hsub i _ ho, fun e he hb => ?_⟩
      · have hls : i < listed.size := by rw [hinv.size]; exact (Array.getElem?_eq_some_iff.1 (hsub i _ ho)).1
        exact getD_in hls hc
      · have hm : e.on ∈ odeps m[i] := mem_deps.2 ⟨e, he, hb, rfl⟩
        exact ih e.on (hdeps _ hm) (Nat.lt_trans (hdeps _ hm) hi)

theorem wpAny_growT (hsub : ∀ (i : Nat) o, m[i]? = some o → ops[i]? = some o) (hok : regionOk m kss a0.tmps.size = true) (hst : ∀ R ∈ Rs, Tell.stable R) (hs : StepsR P ops a0 w0 Rs m kss Rs)
    (hsink : Region.sinkB .any ops m.length = true) (hchain : Region.chainB .any ops m.length = true) (hn : m.length < ops.size) {g : Nat}
    (hf : ∀ w', Kp [] w0 w' → FinR (fun _ a w => ∀ listed, HeadInv .any ops m.length listed → (∀ i, i < m.length → listed.getD i false = true) → wpAny P .any ops Q g listed a w) m Rs a0 w') :
    ∀ (fuel : Nat) (listed : Array Bool) (a : Act) (w : World), InvT m ops Rs a0 w0 listed a w → ((List.range m.length).filter fun i => !listed.getD i false).length = fuel → wpAny P .any ops Q (fuel + g) listed a w := by
  obtain ⟨hlen, _, hat⟩ := StepsR.at _ hs
  have hdone : ∀ (listed : Array Bool) (a : Act) (w : World), InvT m ops Rs a0 w0 listed a w → (∀ i, i < m.length → listed.getD i false = true) → wpAny P .any ops Q g listed a w := fun listed a w hinv hall =>
    fin_ofT (K := fun a w => ∀ listed, HeadInv .any ops m.length listed → (∀ i, i < m.length → listed.getD i false = true) → wpAny P .any ops Q g listed a w) hok hlen hinv hall (hf w hinv.kp) listed hinv.head hall
  intro fuel
  induction fuel with
  | zero =>
    intro listed a w hinv hc
    rw [Nat.zero_add]
    refine hdone listed a w hinv (fun i hi => ?_)
    have h1 := List.filter_eq_nil_iff.1 (List.eq_nil_of_length_eq_zero hc) i (List.mem_range.2 hi)
    simpa using h1
  | succ fuel ih =>
    intro listed a w hinv hc
    obtain ⟨k, hk, hkun⟩ : ∃ k, k < m.length ∧ listed.getD k false = false := by
      have hne : ((List.range m.length).filter fun i => !listed.getD i false) ≠ [] := by intro h; rw [h] at hc; simp at hc
      obtain ⟨k, hk⟩ := List.exists_mem_of_ne_nil _ hne
      obtain ⟨h1, h2⟩ := List.mem_filter.1 hk
      exact ⟨k, List.mem_range.1 h1, by simpa using h2⟩
    have hks : k < listed.size := by rw [hinv.head.size]; omega
    have htw := tail_waits hsink hchain hn hinv.head _ k rfl hk (getD_in hks hkun)
    rw [show fuel + 1 + g = (fuel + g) + 1 by omega]
    refine ⟨fun h0 => ?_, fun i hi => ?_⟩
    · have := headReady hsub hok hinv.head (fun i _ hr => by rw [h0] at hr; cases hr) k hk
      rw [this] at hkun; cases hkun
    · have him : i < m.length := by
        rcases Nat.lt_or_ge i m.length with h | h
        · exact h
        · exact absurd hi (htw i h)
      obtain ⟨hun, o, ho', hall⟩ := mem_ready.1 hi
      have ho : m[i]? = some m[i] := List.getElem?_eq_getElem him
      have hoo : o = m[i] := by rw [hsub i _ ho] at ho'; exact (Option.some.inj ho').symm
      subst hoo
      obtain ⟨ks, d, hks', hd, hdn, _, hlk, _⟩ := regionOk_at hok ho
      have hR : Rs[i]? = some Rs[i] := List.getElem?_eq_getElem (by omega)
      have hw := hat i m[i] ks Rs[i] ho hks' hR a w hinv.kp (knows_ofT hsub hinv hi ho hlen ks hlk)
      have hil : i < listed.size := by rw [hinv.head.size]; omega
      have hcnt : ((List.range m.length).filter fun j => !(listed.setIfInBounds i true).getD j false).length = fuel := by
        have e1 : (List.range m.length).filter (fun j => !(listed.setIfInBounds i true).getD j false) = ((List.range m.length).filter fun j => !listed.getD j false).filter (fun j => j != i) := by
          rw [List.filter_filter]
          refine List.filter_congr (fun j _ => ?_)
          by_cases hij : i = j
          · subst hij; simp [hil]
          · rw [getD_set_ne false hij]
            simp [Ne.symm hij]
        have hmem : i ∈ (List.range m.length).filter (fun j => !listed.getD j false) := List.mem_filter.2 ⟨List.mem_range.2 him, by rw [getD_both hun]; rfl⟩
        have hnd : ((List.range m.length).filter fun j => !listed.getD j false).Nodup := List.Pairwise.filter _ List.nodup_range
        rw [e1, ← hnd.erase_eq_filter, List.length_erase_of_mem hmem, hc]
        rfl
      have next : ∀ v w', Kp [] w w' → Rs[i] v w' → wpAny P .any ops Q (fuel + g) (listed.setIfInBounds i true) (a.put m[i].dst v) w' := fun v w' hk hv =>
        ih _ _ _ (inv_stepT hsub hok hst hinv hi ho hR hk hv) hcnt
      unfold wants at hw
      unfold wpOp
      simp only [ho']
      split
      · rename_i hwn
        rw [if_pos hwn] at hw
        refine .inl ?_
        unfold Oper.wp
        generalize (execOp a.eval m[i]).run P w = r at *
        cases r with
        | ok x w' =>
          cases x <;> simp only [grown] at hw <;> simp only [Oper.upon]
          case value v => exact next v w' hw.1 hw.2
          case skip => exact next undef w' hw.1 hw.2
          case enter f args =>
            refine hw.mono ?_
            rintro e w'' ⟨v, rfl, h1, h2⟩
            exact next v w'' h1 h2
        | halt x w' => simp only [grown] at hw
      · rename_i hwn
        rw [if_neg hwn] at hw
        exact next undef w (Kp.refl _ _) hw

/-- the array that has the first n listed. -/
def firsts (n s : Nat) : Array Bool := Array.replicate n true ++ Array.replicate (s - n) false
theorem firsts_eq {s : Nat} (hn : n ≤ s) (hinv : HeadInv .any ops n listed) (hs : ops.size = s) (hall : ∀ i, i < n → listed.getD i false = true) : listed = firsts n s := by
  have hsz : listed.size = s := by rw [hinv.size, hs]
  refine Array.ext (by simp [firsts]; omega) (fun i h1 h2 => ?_)
  rcases Nat.lt_or_ge i n with h | h
  · have := hall i h
    simp [h1] at this
    simp [firsts, this, h]
  · have := hinv.tail i h (by omega)
    simp [h1] at this
    simp [firsts, this, Array.getElem_append, Nat.not_lt.2 h]

/-- **The first n operations only make memory, the rest comes behind them, one by one.** -/
theorem region_grow_tail {id : Nat} {w : World} {l : List Oper} (n : Nat) (hm : P.follows .mixedOrders = true) (Rs : List Tell) (kss : List (List (Tmp × Option Nat))) (hok : (regionOk (l.take n) kss a0.tmps.size && decide (n < l.length) && Region.sinkB .any l.toArray n && Region.chainB .any l.toArray n && Region.seqB .any l.toArray (l.length - n) n (firsts n l.length)) = true) (hst : ∀ R ∈ Rs, Tell.stable R)
    (hs : StepsR P l.toArray a0 w.drew Rs (l.take n) kss Rs) (hf : ∀ w', Kp [] w.drew w' → FinR (fun _ a w => wpList P l.toArray Q (l.drop n) a w) (l.take n) Rs a0 w') : (Code.region id l.toArray true).wp P Q a0 w := by
  simp only [Bool.and_eq_true, decide_eq_true_eq] at hok
  obtain ⟨⟨⟨⟨hok, hn⟩, hsink⟩, hchain⟩, hseq⟩ := hok
  have htl : (l.take n).length = n := by simp; omega
  refine wp_region_any hm ?_
  have hsub : ∀ (i : Nat) o, (l.take n)[i]? = some o → l.toArray[i]? = some o := fun i o h => by
    rw [List.getElem?_take] at h
    split at h
    · rw [List.getElem?_toArray]; exact h
    · cases h
  have H := wpAny_growT (m := l.take n) (ops := l.toArray) (Q := Q) (g := l.length - n) (w0 := w.drew) hsub hok hst hs (by rw [htl]; exact hsink) (by rw [htl]; exact hchain) (by rw [htl]; simpa using hn) (fun w' hk => by
    have key : ∀ (m : List Oper) (rs : List Tell) (b : Act), FinR (fun _ a w => wpList P l.toArray Q (l.drop n) a w) m rs b w' → FinR (fun _ a w => ∀ listed, HeadInv .any l.toArray (l.take n).length listed → (∀ i, i < (l.take n).length → listed.getD i false = true) → wpAny P .any l.toArray Q (l.length - n) listed a w) m rs b w' := by
      intro m
      have base : ∀ b : Act, wpList P l.toArray Q (l.drop n) b w' → ∀ listed, HeadInv .any l.toArray (l.take n).length listed → (∀ i, i < (l.take n).length → listed.getD i false = true) → wpAny P .any l.toArray Q (l.length - n) listed b w' := by
        intro b hb listed hinv hall
        rw [htl] at hinv hall
        rw [firsts_eq (Nat.le_of_lt hn) hinv (by simp) hall]
        have := wpAny_of_seq (P := P) (md := .any) (Q' := Q) (ops := l.toArray) (l.drop n) n (firsts n l.length) b w' (fun j => by simp [List.getElem?_drop]) (by rw [List.length_drop]; exact hseq) hb
        rwa [List.length_drop] at this
      induction m with
      | nil => intro rs b h; cases rs <;> exact base b h
      | cons o m ih =>
        intro rs b h
        cases rs with
        | nil => exact base b h
        | cons R rs => exact fun v hv => ih rs _ (h v hv)
    exact key _ _ _ (hf w' hk)) n (Array.replicate l.toArray.size false) a0 w.drew
    ⟨Kp.refl _ _, rfl, rfl, (fun i d R h => by rw [getD_replicate_false] at h; cases h), fun _ _ => rfl, ⟨by simp, fun j oj _ hl => (by rw [getD_replicate_false] at hl; cases hl), fun t _ ht => getD_in (by simpa using ht) (getD_replicate_false _ _)⟩⟩ (by
      rw [htl, List.filter_eq_self.2 (fun i _ => by rw [getD_replicate_false]; rfl)]; simp)
  rw [show n + (l.length - n) = l.toArray.size by simp; omega] at H
  exact H
end
end Go.Proofs.YtdioaohejoflcaaDoor
