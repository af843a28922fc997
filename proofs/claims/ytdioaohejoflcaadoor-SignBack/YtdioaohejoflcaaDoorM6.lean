/-
  Regions that draw their order, whose operations only make memory, and mark what they made: of each operation a predicate tells what it yields, and stays true as long as cells stay; one look at each operation serves every order.
-/
import Derived.Test.YtdioaohejoflcaaDoorM3
import Derived.Test.YtdioaohejoflcaaDoorM5
import Derived.Test.YtdioaohejoflcaaDoorM4
import Derived.Test.YtdioaohejoflcaaDoorM1
import Derived.Laws.OwnMore
namespace Go.Proofs.YtdioaohejoflcaaDoor
open Go.RowKit

/-- w' has all cells that w has. -/
structure Kc (w w' : World) : Prop where
  size : w.heap.size ≤ w'.heap.size
  cell : ∀ a v, w.cell? a = some v → w'.cell? a = some v
theorem Kc.refl (w : World) : Kc w w := ⟨Nat.le_refl _, fun _ _ h => h⟩
theorem Kp.kc {w w' : World} (h : Kp [] w w') : Kc w w' := ⟨h.size, fun _ _ hc => h.cell hc (by simp)⟩
def Tell.stableC (R : Tell) : Prop := ∀ v w w', Kc w w' → R v w → R v w'
theorem Sl.kc {w w' : World} {v : Value} {bs : List Int} (h : Sl w v bs) (k : Kc w w') : Sl w' v bs := by
  obtain ⟨ao, c, rfl, h1, h2, h3, h4⟩ := h
  exact ⟨ao, c, rfl, h1, h2, h3, fun a ha j u hu => k.cell _ _ (h4 a ha j u hu)⟩
theorem Lists.kc {w w' : World} {v : Value} {l : List (Value × List Int)} (h : Lists w v l) (k : Kc w w') : Lists w' v l := by
  obtain ⟨ao, c, rfl, h1, h2⟩ := h
  refine ⟨ao, c, rfl, h1, fun i hi => ?_⟩
  obtain ⟨b, off, e, h3, h4, h5⟩ := h2 i hi
  exact ⟨b, off, e, k.cell _ _ h3, h4.kc k, h5⟩
theorem stableC_is (c : Value) : Tell.stableC (Is c) := fun _ _ _ _ h => h
theorem stableC_sl (bs : List Int) : Tell.stableC (SlT bs) := fun _ _ _ k h => h.kc k
theorem stableC_lsm (ls : List (List Int)) : Tell.stableC (LsM ls) := fun _ _ _ k ⟨l, h, e⟩ => ⟨l, h.kc k, e⟩

def grownC (P : Program) (w0 w : World) (R : Tell) : Result Next → Prop
  | .ok (.value v) w' => (Kc w w' ∧ Kp [] w0 w') ∧ R v w'
  | .ok .skip w' => (Kc w w' ∧ Kp [] w0 w') ∧ R undef w'
  | .ok (.enter f args) w' => Calls P f args w' fun e w'' => ∃ v, e = .returned v ∧ (Kc w w'' ∧ Kp [] w0 w'') ∧ R v w''
  | _ => False

/-- What one operation must do. -/
def wantsC (P : Program) (ops : Array Oper) (o : Oper) (a : Act) (w0 w : World) (R : Tell) : Prop :=
  if Region.wanted o (yielded ops a.tmps) then grownC P w0 w R ((execOp a.eval o).run P w) else R undef w

def StepsC (P : Program) (ops : Array Oper) (a0 : Act) (w0 : World) (Rs : List Tell) : List Oper → List (List (Tmp × Option Nat)) → List Tell → Prop
  | o :: l, ks :: kss, R :: rs => (∀ a w, Kp [] w0 w → Knows a0 Rs a w ks → wantsC P ops o a w0 w R) ∧ StepsC P ops a0 w0 Rs l kss rs
  | [], [], [] => True
  | _, _, _ => False

section
variable {P : Program} {l : List Oper} {Q : Exit → Act → World → Prop} {a0 : Act} {w0 : World} {Rs : List Tell} {kss : List (List (Tmp × Option Nat))} {n i : Nat} {listed : Array Bool} {a : Act} {w w' : World} {o : Oper} {R : Tell} {v : Value}

theorem StepsC.at (ops : Array Oper) : ∀ {l : List Oper} {kss : List (List (Tmp × Option Nat))} {rs : List Tell}, StepsC P ops a0 w0 Rs l kss rs → l.length = rs.length ∧ l.length = kss.length ∧ ∀ (i : Nat) o ks R, l[i]? = some o → kss[i]? = some ks → rs[i]? = some R → ∀ a w, Kp [] w0 w → Knows a0 Rs a w ks → wantsC P ops o a w0 w R
  | [], [], [], _ => ⟨rfl, rfl, fun i o ks R h => by simp at h⟩
  | o :: l, ks :: kss, R :: rs, h => by
    obtain ⟨h1, h2, h3⟩ := StepsC.at ops h.2
    refine ⟨by simp [h1], by simp [h2], fun i o' ks' R' ho hk hR => ?_⟩
    cases i with
    | zero =>
      simp at ho hk hR
      subst ho; subst hk; subst hR
      exact h.1
    | succ i => exact h3 i o' ks' R' (by simpa using ho) (by simpa using hk) (by simpa using hR)
  | [], [], _ :: _, h => h.elim
  | [], _ :: _, [], h => h.elim
  | [], _ :: _, _ :: _, h => h.elim
  | _ :: _, [], [], h => h.elim
  | _ :: _, [], _ :: _, h => h.elim
  | _ :: _, _ :: _, [], h => h.elim

structure InvC (l : List Oper) (Rs : List Tell) (a0 : Act) (w0 : World) (listed : Array Bool) (a : Act) (w : World) : Prop where
  kp : Kp [] w0 w
  size : a.tmps.size = a0.tmps.size
  defers : a.defers = a0.defers
  ls : listed.size = l.length
  told : ∀ i d R, listed.getD i false = true → dstAt l i = some d → Rs[i]? = some R → R (a.eval (.tmp d)) w
  rest : ∀ t, (∀ i, listed.getD i false = true → dstAt l i ≠ some t) → a.eval (.tmp t) = a0.eval (.tmp t)
  closed : ∀ i o, l[i]? = some o → listed.getD i false = true → ∀ j ∈ odeps o, listed.getD j false = true

theorem knows_ofC (hinv : InvC l Rs a0 w0 listed a w) (hr : i ∈ Region.ready .any l.toArray listed) (ho : l[i]? = some o) (hlen : l.length = Rs.length) : ∀ ks : List (Tmp × Option Nat), (∀ k ∈ ks, lookOk l i o k = true) → Knows a0 Rs a w ks
  | [], _ => trivial
  | (t, some j) :: ks, h => by
    refine ⟨?_, knows_ofC hinv hr ho hlen ks (fun k hk => h k (by simp [hk]))⟩
    have h1 := h (t, some j) (by simp)
    simp only [lookOk, Bool.and_eq_true, List.contains_iff_mem, beq_iff_eq] at h1
    obtain ⟨hd, hdst⟩ := h1
    obtain ⟨e, he, hb, rfl⟩ := mem_deps.1 hd
    obtain ⟨_, o', ho', hall⟩ := mem_ready.1 hr
    have : o' = o := by have := ho'; rw [List.getElem?_toArray, ho] at this; exact (Option.some.inj this).symm
    subst this
    have hl := hall e he hb
    have hlt : e.on < Rs.length := by
      unfold dstAt at hdst
      cases hx : l[e.on]? with
      | none => simp [hx] at hdst
      | some _ => rw [← hlen]; exact (List.getElem?_eq_some_iff.1 hx).1
    rw [List.getD_eq_getElem?_getD, List.getElem?_eq_getElem hlt, Option.getD_some]
    exact hinv.told e.on t _ hl hdst (List.getElem?_eq_getElem hlt)
  | (t, none) :: ks, h => by
    refine ⟨?_, knows_ofC hinv hr ho hlen ks (fun k hk => h k (by simp [hk]))⟩
    have h1 := h (t, none) (by simp)
    simp only [lookOk, List.all_eq_true, List.mem_range, Bool.or_eq_true, beq_iff_eq, bne_iff_ne, ne_eq] at h1
    refine hinv.rest t (fun k hk hkd => ?_)
    have hnot : listed.getD i false = false := by
      have h0 := (mem_ready.1 hr).1
      rcases Nat.lt_or_ge i listed.size with h' | h'
      · simp [h'] at h0 ⊢; exact h0
      · simp [Array.getElem?_eq_none h']
    have hlt : k < l.length := by
      unfold dstAt at hkd
      cases hx : l[k]? with
      | none => simp [hx] at hkd
      | some _ => exact (List.getElem?_eq_some_iff.1 hx).1
    rcases h1 k hlt with (h2 | h2) | h2
    · subst h2; rw [hk] at hnot; cases hnot
    · exact h2 hkd
    · rw [List.getElem?_eq_getElem hlt] at h2
      simp only [Option.map_some, Option.getD_some, List.contains_iff_mem] at h2
      have := hinv.closed k _ (List.getElem?_eq_getElem hlt) hk i h2
      rw [this] at hnot; cases hnot

theorem fin_ofC (hok : regionOk l kss a0.tmps.size = true) (hlen : l.length = Rs.length) (hinv : InvC l Rs a0 w0 listed a w) (hall : ∀ i, i < l.length → listed.getD i false = true) :
    ∀ (m : List Oper) (rs : List Tell) (k : Nat) (b : Act), (∀ j, m[j]? = l[k + j]?) → (∀ j, rs[j]? = Rs[k + j]?) → b.tmps.size = a0.tmps.size → b.defers = a0.defers →
    (∀ t, (∀ j d, dstAt l (k + j) = some d → d ≠ t) → b.eval (.tmp t) = a.eval (.tmp t)) → FinR Q m rs b w → Q .normal a w
  | [], rs, k, b, hm, hrs, hbs, hbd, heq, h => by
    have hb : b = a := by
      cases b with
      | mk bt bd =>
        cases a with
        | mk at_ ad =>
          have e1 : bt.size = at_.size := hbs.trans hinv.size.symm
          have e2 : bd = ad := hbd.trans hinv.defers.symm
          subst e2
          congr 1
          refine Array.ext e1 (fun i h1 h2 => ?_)
          have := heq i (fun j d hd => by
            unfold dstAt at hd
            rw [← hm j] at hd
            simp at hd)
          simpa [Act.eval, h1, h2] using this
    subst hb
    cases rs <;> exact h
  | o :: m, [], k, b, hm, hrs, _, _, _, _ => by
    have h1 := hm 0
    have h2 := hrs 0
    simp only [List.getElem?_cons_zero, Nat.add_zero, List.getElem?_nil] at h1 h2
    have h3 : k < l.length := (List.getElem?_eq_some_iff.1 h1.symm).1
    have h4 := List.getElem?_eq_none_iff.1 h2.symm
    omega
  | o :: m, R :: rs, k, b, hm, hrs, hbs, hbd, heq, h => by
    have h1 : l[k]? = some o := by simpa using (hm 0).symm
    have h2 : Rs[k]? = some R := by simpa using (hrs 0).symm
    have h3 : k < l.length := (List.getElem?_eq_some_iff.1 h1).1
    obtain ⟨ks, d, _, hd, hdn, _, _, _⟩ := regionOk_at hok h1
    have hdk : dstAt l k = some d := by unfold dstAt; simp [h1, hd]
    have hR := hinv.told k d R (hall k h3) hdk h2
    refine fin_ofC hok hlen hinv hall m rs (k + 1) (b.put o.dst (a.eval (.tmp d))) (fun j => ?_) (fun j => ?_) ?_ ?_ ?_ (h _ hR)
    · have := hm (j + 1); simpa [Nat.add_assoc, Nat.add_comm 1 j] using this
    · have := hrs (j + 1); simpa [Nat.add_assoc, Nat.add_comm 1 j] using this
    · rw [hd]; simpa [Act.put] using hbs
    · rw [hd]; simpa [Act.put] using hbd
    · intro t ht
      rw [hd]
      by_cases htd : d = t
      · subst htd
        exact eval_put_same (by rw [hbs]; exact hdn)
      · rw [eval_put_ne htd]
        refine heq t (fun j d' hj => ?_)
        cases j with
        | zero => rw [Nat.add_zero, hdk] at hj; cases hj; exact htd
        | succ j => exact ht j d' (by rw [← hj]; congr 1; omega)

theorem inv_stepC (hok : regionOk l kss a0.tmps.size = true) (hst : ∀ R ∈ Rs, Tell.stableC R) (hinv : InvC l Rs a0 w0 listed a w) (hr : i ∈ Region.ready .any l.toArray listed) (ho : l[i]? = some o) (hR : Rs[i]? = some R)
    (hk : Kc w w' ∧ Kp [] w0 w') (hv : R v w') : InvC l Rs a0 w0 (listed.setIfInBounds i true) (a.put o.dst v) w' := by
  obtain ⟨ks, d, _, hd, hdn, _, _, _⟩ := regionOk_at hok ho
  have hdi : dstAt l i = some d := by unfold dstAt; simp [ho, hd]
  have hget : ∀ j, (listed.setIfInBounds i true).getD j false = true → j = i ∨ listed.getD j false = true := fun j hj => by
    by_cases hij : i = j
    · exact .inl hij.symm
    · rw [getD_set_ne false hij] at hj; exact .inr hj
  rw [hd]
  refine ⟨hk.2, ?_, ?_, ?_, ?_, ?_, ?_⟩
  · simpa [Act.put] using hinv.size
  · simpa [Act.put] using hinv.defers
  · simpa using hinv.ls
  · intro j dj Rj hj hdj hRj
    by_cases hji : j = i
    · subst hji
      rw [hdi] at hdj; cases hdj
      rw [hR] at hRj; cases hRj
      rw [eval_put_same (by rw [hinv.size]; exact hdn)]
      exact hv
    · have hl := (hget j hj).resolve_left hji
      have hne : d ≠ dj := fun e => hji (dst_inj hok (e ▸ hdj) hdi)
      rw [eval_put_ne hne]
      exact hst Rj (List.mem_of_getElem? hRj) _ _ _ hk.1 (hinv.told j dj Rj hl hdj hRj)
  · intro t ht
    have hlt : i < listed.size := by rw [hinv.ls]; exact (List.getElem?_eq_some_iff.1 ho).1
    have hne : d ≠ t := fun e => ht i (by simp [hlt]) (e ▸ hdi)
    rw [eval_put_ne hne]
    refine hinv.rest t (fun j hj => ht j ?_)
    exact getD_set_true hj
  · intro j oj hoj hj k hk'
    rcases hget j hj with h1 | h1
    · subst h1
      rw [ho] at hoj; cases hoj
      obtain ⟨e, he, hb, rfl⟩ := mem_deps.1 hk'
      obtain ⟨_, o', ho', hall⟩ := mem_ready.1 hr
      have : o' = o := by have := ho'; rw [List.getElem?_toArray, ho] at this; exact (Option.some.inj this).symm
      subst this
      exact getD_set_true (hall e he hb)
    · exact getD_set_true (hinv.closed j oj hoj h1 k hk')

theorem all_listedC (hok : regionOk l kss n = true) (hinv : InvC l Rs a0 w0 listed a w) (hr : Region.ready .any l.toArray listed = []) : ∀ i, i < l.length → listed.getD i false = true := by
  intro i
  induction i using Nat.strongRecOn with
  | _ i ih =>
    intro hi
    cases hc : listed.getD i false with
    | true => rfl
    | false =>
      have ho : l[i]? = some l[i] := List.getElem?_eq_getElem hi
      obtain ⟨_, _, _, _, _, hdeps, _, _⟩ := regionOk_at hok ho
      have : i ∈ Region.ready .any l.toArray listed := by
        rw [mem_ready]
        refine ⟨?_, l[i], by rw [List.getElem?_toArray]; exact ho, fun e he hb => ?_⟩
        · have hls : i < listed.size := by rw [hinv.ls]; exact hi
          simp [hls] at hc ⊢; exact hc
        · have hm : e.on ∈ odeps l[i] := mem_deps.2 ⟨e, he, hb, rfl⟩
          exact ih e.on (hdeps _ hm) (Nat.lt_trans (hdeps _ hm) hi)
      rw [hr] at this
      cases this

theorem wpAny_growC (hok : regionOk l kss a0.tmps.size = true) (hst : ∀ R ∈ Rs, Tell.stableC R) (hs : StepsC P l.toArray a0 w0 Rs l kss Rs) (hf : ∀ w', Kp [] w0 w' → FinR Q l Rs a0 w') :
    ∀ (fuel : Nat) (listed : Array Bool) (a : Act) (w : World), InvC l Rs a0 w0 listed a w → listed.toList.count false = fuel → wpAny P .any l.toArray Q fuel listed a w := by
  obtain ⟨hlen, _, hat⟩ := StepsC.at _ hs
  have hend : ∀ (listed : Array Bool) (a : Act) (w : World), InvC l Rs a0 w0 listed a w → Region.ready .any l.toArray listed = [] → Q .normal a w := fun listed a w hinv hr =>
    fin_ofC hok hlen hinv (all_listedC hok hinv hr) l Rs 0 a0 (by simp) (by simp) rfl rfl (fun t ht => (hinv.rest t (fun i _ hd => ht i t (by rw [Nat.zero_add]; exact hd) rfl)).symm) (hf w hinv.kp)
  intro fuel
  induction fuel with
  | zero =>
    intro listed a w hinv hc
    have hr : Region.ready .any l.toArray listed = [] := by
      refine List.eq_nil_iff_forall_not_mem.2 (fun j hj => ?_)
      have h0 := (mem_ready.1 hj).1
      have h1 := List.count_eq_zero.1 hc
      rcases Nat.lt_or_ge j listed.size with h' | h'
      · simp [h'] at h0
        exact h1 (by rw [← h0]; simp)
      · simp [Array.getElem?_eq_none h'] at h0
    exact ⟨hr, hend listed a w hinv hr⟩
  | succ fuel ih =>
    intro listed a w hinv hc
    refine ⟨hend listed a w hinv, fun i hi => ?_⟩
    obtain ⟨hun, o, ho', hall⟩ := mem_ready.1 hi
    have ho : l[i]? = some o := by rw [← List.getElem?_toArray]; exact ho'
    have hilt : i < l.length := (List.getElem?_eq_some_iff.1 ho).1
    obtain ⟨ks, d, hks, hd, hdn, _, hlk, _⟩ := regionOk_at hok ho
    have hR : Rs[i]? = some Rs[i] := List.getElem?_eq_getElem (by omega)
    have hw := hat i o ks Rs[i] ho hks hR a w hinv.kp (knows_ofC hinv hi ho hlen ks hlk)
    have hcnt : (listed.setIfInBounds i true).toList.count false = fuel := by
      have hls : i < listed.size := by rw [hinv.ls]; exact hilt
      have hg : listed.toList[i]'(by simpa using hls) = false := by simpa [hls] using hun
      rw [Array.toList_setIfInBounds, List.count_set (by simpa using hls), hg, hc]
      simp
    have next : ∀ v w', (Kc w w' ∧ Kp [] w0 w') → Rs[i] v w' → wpAny P .any l.toArray Q fuel (listed.setIfInBounds i true) (a.put o.dst v) w' := fun v w' hk hv =>
      ih _ _ _ (inv_stepC hok hst hinv hi ho hR hk hv) hcnt
    unfold wantsC at hw
    unfold wpOp
    simp only [ho']
    split
    · rename_i hwn
      rw [if_pos hwn] at hw
      refine .inl ?_
      unfold Oper.wp
      generalize (execOp a.eval o).run P w = r at *
      cases r with
      | ok x w' =>
        cases x <;> simp only [grownC] at hw <;> simp only [Oper.upon]
        case value v => exact next v w' hw.1 hw.2
        case skip => exact next undef w' hw.1 hw.2
        case enter f args =>
          refine hw.mono ?_
          rintro e w'' ⟨v, rfl, h1, h2⟩
          exact next v w'' h1 h2
      | halt x w' => simp only [grownC] at hw
    · rename_i hwn
      rw [if_neg hwn] at hw
      exact next undef w ⟨Kc.refl _, hinv.kp⟩ hw

/-- **One look at each operation serves every order.** -/
theorem region_growC {id : Nat} {w : World} (hm : P.follows .mixedOrders = true) (Rs : List Tell) (kss : List (List (Tmp × Option Nat))) (hok : regionOk l kss a0.tmps.size = true) (hst : ∀ R ∈ Rs, Tell.stableC R)
    (hs : StepsC P l.toArray a0 w.drew Rs l kss Rs) (hf : ∀ w', Kp [] w.drew w' → FinR Q l Rs a0 w') : (Code.region id l.toArray true).wp P Q a0 w := by
  refine wp_region_any hm ?_
  refine wpAny_growC (w0 := w.drew) hok hst hs hf _ _ _ _ ⟨Kp.refl _ _, rfl, rfl, by simp, fun i d R h => ?_, fun _ _ => rfl, fun i o _ h => ?_⟩ ?_
  · exfalso; revert h; simp only [Array.getD_eq_getD_getElem?, Array.getElem?_replicate]; split <;> simp
  · exfalso; revert h; simp only [Array.getD_eq_getD_getElem?, Array.getElem?_replicate]; split <;> simp
  · simp
end

theorem wantsC_of {P : Program} {ops : Array Oper} {o : Oper} {a : Act} {w0 w : World} {R : Tell} (hk : Kp [] w0 w) (h : wants P ops o a w R) : wantsC P ops o a w0 w R := by
  unfold wants at h
  unfold wantsC
  split
  · rename_i hw
    rw [if_pos hw] at h
    generalize (execOp a.eval o).run P w = r at *
    cases r with
    | ok x w' =>
      cases x <;> simp only [grown] at h <;> simp only [grownC]
      case value v => exact ⟨⟨h.1.kc, hk.trans h.1⟩, h.2⟩
      case skip => exact ⟨⟨h.1.kc, hk.trans h.1⟩, h.2⟩
      case enter f args =>
        refine h.mono ?_
        rintro e w'' ⟨v, rfl, h1, h2⟩
        exact ⟨v, rfl, ⟨h1.kc, hk.trans h1⟩, h2⟩
    | halt x w' => simp only [grown] at h
  · rename_i hw
    rw [if_neg hw] at h
    exact h
theorem steps_consC {P : Program} {ops : Array Oper} {a0 : Act} {w0 : World} {Rs : List Tell} {o : Oper} {l : List Oper} {ks : List (Tmp × Option Nat)} {kss : List (List (Tmp × Option Nat))} {R : Tell} {rs : List Tell}
    (h1 : ∀ a w, Kp [] w0 w → Knows a0 Rs a w ks → wantsC P ops o a w0 w R) (h2 : StepsC P ops a0 w0 Rs l kss rs) : StepsC P ops a0 w0 Rs (o :: l) (ks :: kss) (R :: rs) := ⟨h1, h2⟩

/-- A slice of a constant's bytes, new since. -/
def LitT (base : Nat) (bs : List Int) : Tell := fun v w => ∃ g c, v = .slice (some ⟨g, 0, none⟩) bs.length c ∧ base ≤ g ∧ Sl w v bs
theorem stableC_lit (base : Nat) (bs : List Int) : Tell.stableC (LitT base bs) := fun _ _ _ k ⟨g, c, h1, h2, h3⟩ => ⟨g, c, h1, h2, h3.kc k⟩
theorem freeze_kc (w : World) (p : Addr) (n : Nat) : Kc w (w.freeze p n) := by
  unfold World.freeze
  split
  · exact Kc.refl _
  · refine ⟨by simp, fun a v h => ?_⟩
    unfold World.cell? at h ⊢
    by_cases hb : p.block = a.block
    · rw [← hb] at h ⊢
      cases hx : w.heap[p.block]? with
      | none => rw [hx] at h; cases h
      | some o =>
        have hlt : p.block < w.heap.size := (Array.getElem?_eq_some_iff.1 hx).1
        have hx' : w.heap[p.block] = o := by simpa [Array.getElem?_eq_getElem hlt] using hx
        rw [hx] at h
        rw [Array.getElem?_eq_getElem (by simpa using hlt), Array.getElem_modify_self, hx']
        cases o <;> simp_all
    · rw [Array.getElem?_modify, if_neg (by simpa using hb)]
      exact h
theorem freeze_kp {w0 w : World} (hk : Kp [] w0 w) (p : Addr) (n : Nat) (hp : w0.heap.size ≤ p.block) : Kp [] w0 (w.freeze p n) := by
  unfold World.freeze
  split
  · exact hk
  · refine ⟨hk.os, hk.tape, hk.output, by simpa using hk.size, fun k hlt hn => ?_⟩
    rw [Array.getElem?_modify, if_neg (by show ¬ p.block = k; omega)]
    exact hk.block k hlt hn
theorem run_convert_lit (w : World) (a : Addr) (n c : Nat) : ∃ w', (convert 24 24 (.slice (some a) n c)).run Tryd.prog w = .ok (.slice (some a) n c) w' ∧ Kc w w' ∧ ∀ w0, Kp [] w0 w → w0.heap.size ≤ a.block → Kp [] w0 w' := by
  simp [convert, run_underlying Tryd.underlying24, run_underlying Tryd.underlying5, markStringish]
  cases h : w.shape? a.block with
  | none => exact ⟨w, by simp, Kc.refl _, fun _ k _ => k⟩
  | some x => exact ⟨w.freeze ⟨a.block, x.2, none⟩ 1, by simp, freeze_kc _ _ _, fun _ k hb => freeze_kp k _ _ hb⟩
theorem grown_lit {o : Oper} {a : Act} {w0 w : World} (hk : Kp [] w0 w) (bs : List Int) (ho : (execOp a.eval o).run Tryd.prog w = .ok (.value (.slice (some ⟨w.heap.size, 0, none⟩) bs.length bs.length)) (w.alloc (.cells (bs.map (Value.int .u8)).toArray 5))) (hm : bs.length ≤ maxLen) : grown Tryd.prog w (LitT w0.heap.size bs) ((execOp a.eval o).run Tryd.prog w) := by
  rw [ho]
  exact ⟨(Kp.refl _ _).alloc _, w.heap.size, bs.length, rfl, hk.size, Sl.block (cs := bs) (t := 5) (fr := (0, 0)) (heap_alloc_new w _) hm⟩
theorem wantsC_lit {ops : Array Oper} {o : Oper} {a : Act} {w0 w : World} (hk : Kp [] w0 w) (hw : Region.wanted o (yielded ops a.tmps) = true) (x : Operand) (ho : o.op = .convert 24 24 x) (bs : List Int) (h : LitT w0.heap.size bs (a.eval x) w) : wantsC Tryd.prog ops o a w0 w (SlT bs) := by
  obtain ⟨g, c, h1, h2, h3⟩ := h
  obtain ⟨w', hr, k1, k2⟩ := run_convert_lit w ⟨g, 0, none⟩ bs.length c
  unfold wantsC
  rw [if_pos hw]
  have e : (execOp a.eval o).run Tryd.prog w = .ok (.value (.slice (some ⟨g, 0, none⟩) bs.length c)) w' := by
    unfold execOp
    simp only [ho, h1, Sem.run_bind, hr, Result.andThen_ok, Sem.run_pure]
  rw [e]
  rw [h1] at h3
  exact ⟨⟨k1, k2 w0 hk h2⟩, h3.kc k1⟩
end Go.Proofs.YtdioaohejoflcaaDoor

/-
  The contract of the law package's known.
-/
namespace Go.Proofs.YtdioaohejoflcaaDoor
open Go.RowKit
open Go.Proofs

theorem verP_zero (pub ms : List Int) : verP pub ms 0 [] [] = false := by
  unfold verP
  have : rgtP 0 [] [] = false := by rfl
  rw [this]; rfl
theorem wants_none {P : Program} {ops : Array Oper} {o : Oper} {a : Act} {w : World} {R : Tell} {g : Nat} {b : Bool} {d : Tmp} (hg : o.guard = some (g, b)) (hd : (ops[g]?).bind (·.dst) = some d) (he : a.eval (.tmp d) = undef) (h : R undef w) : wants P ops o a w R := by
  have h2 : yielded ops a.tmps g = none := by
    unfold yielded
    rw [hd]
    simp only [Option.bind_some]
    have h1 : a.tmps[d]?.getD undef = undef := by simpa [Act.eval] using he
    cases hx : a.tmps[d]? with
    | none => rfl
    | some x =>
      rw [hx, Option.getD_some] at h1
      subst h1
      rfl
  unfold wants
  rw [if_neg (by simp [Region.wanted, hg, h2])]
  exact h
theorem grown_loadsig {o : Oper} {a : Act} {w : World} {R : Tell} (p : Operand) (ho : o.op = .load 33 p) (g : Nat) (x y z : Value) (fr : Nat × Nat) (hp : a.eval p = .pointer (some ⟨g, 0, none⟩)) (hg : w.heap[g]? = some (.cells #[x, y, z] 33 fr)) (hR : R (.agg #[x, y, z]) w) : grown Tryd.prog w R ((execOp a.eval o).run Tryd.prog w) := by
  refine grown_run ?_ (Kp.refl _ _) hR
  unfold execOp
  simp only [ho, hp, Instr.loadAt, Instr.sureAddr, Sem.run_bind, Sem.run_pure, Result.andThen_ok, load_sig w g x y z fr hg]

set_option maxRecDepth 100000 in
set_option maxHeartbeats 4000000 in
theorem sknown_any (w : World) (hG : Gl w) : Calls Tryd.prog 20 #[] w fun e w' => e = .returned (.bool true) ∧ Kp [] w w' := by
  have HG := hide hG
  clear hG
  go_enter Tryd.func20, Tryd.ntmps20
  go_wp2_with fail
  refine (seed_any 1 w (by omega)).mono ?_
  rintro ee w1 ⟨a1, m1, c1, sd, rfl, R1, hsl, hsb, K1⟩
  have HS1 := hide R1.sl
  have HK1 := hide K1
  have HSB := hide hsb
  have HSL := hide hsl
  clear R1 K1 hsb hsl
  obtain ⟨ob, hob⟩ : ∃ o : Obj, o = (.cells #[.int .u8 109] 5 (1, 2)) := ⟨_, rfl⟩
  have kc1 := Lib.run_convert_bytes_const (P := Tryd.prog) w1 24 5 #[.int .u8 109] 1 1 Tryd.underlying24 Tryd.underlying5
  rw [show (#[Value.int .u8 109].size, #[Value.int .u8 109].size + 1) = (1, 2) from rfl, ← hob] at kc1
  have HM1 : Hid (Sl (w1.alloc ob) (.slice (some ⟨w1.heap.size, 0, none⟩) 1 1) [109]) := by rw [hob]; exact sl109 w1
  have Ka : Kp [] w1 (w1.alloc ob) := (Kp.refl [] w1).alloc ob
  obtain ⟨d, hd⟩ : ∃ d, d = digP [109] := ⟨_, rfl⟩
  have HD := hide hd
  have HC1 := hide (ssign_any (.slice a1 m1 c1) sd 15 _ [109] d hd (w1.alloc ob) ((unhide HS1).kept Ka (by simp)) (unhide HSB) (unhide HSL) (by omega) (unhide HM1) bs109 (by simp) ((unhide HG).kept ((unhide HK1).trans Ka) (by simp)))
  have HKa := hide Ka
  have HOB := hide hob
  clear hd Ka hob
  go_wp2_with fail
  refine (unhide HC1).mono ?_
  rintro ee w2 ⟨v2, rfl, V2, K2⟩
  obtain ⟨ap, np, cp, aq, nq, cq, lp, lq, hv2, hLP, hp, hLQ, hq, hnp, hnq⟩ := V2.shape
  subst hv2
  have HV2 := hide V2
  have HK2 := hide ((unhide HK1).trans ((unhide HKa).trans K2))
  have HS2 := hide (((unhide HS1).kept (unhide HKa) (by simp)).kept K2 (by simp))
  have Ga := heap_alloc_new w2 (.cells #[.int .i64 0, .slice none 0 0, .slice none 0 0] 33)
  clear hLP hp hLQ hq hnp hnq V2 K2 HC1 HKa kc1 HS1 HM1 HK1
  go_wp2_with (refine wpList_store_sig rfl (.tmp 2) (.tmp 12) rfl w2.heap.size rfl _ _ _ _ _ _ Ga rfl ⟨rfl, rfl, rfl⟩ ?_; intro w3 G3 K3; refine Hid.out ?_)
  have Kb : Kp [] w2 w3 := ((Kp.refl [] w2).alloc (.cells #[.int .i64 0, .slice none 0 0, .slice none 0 0] 33)).then K3 (by simp)
  have kc2 := Lib.run_convert_bytes_const (P := Tryd.prog) w3 24 5 #[.int .u8 109] 1 1 Tryd.underlying24 Tryd.underlying5
  rw [show (#[Value.int .u8 109].size, #[Value.int .u8 109].size + 1) = (1, 2) from rfl, ← unhide HOB] at kc2
  have Kc' : Kp [] w3 (w3.alloc ob) := (Kp.refl [] w3).alloc ob
  obtain ⟨g2, hg2⟩ : ∃ g, g = w2.heap.size := ⟨_, rfl⟩
  rw [← hg2] at G3 ⊢
  have HC2 := hide (ssign_used (.slice a1 m1 c1) sd 16 (.slice (some ⟨w3.heap.size, 0, none⟩) 1 1) (w3.alloc ob) (((unhide HS2).kept Kb (by simp)).kept Kc' (by simp)) (unhide HSL) (by omega))
  have HKb := hide Kb
  have HKc := hide Kc'
  have HG3 := hide G3
  clear Ga K3 G3 hg2 Kb Kc'
  refine hide ?_
  go_wp2_with fail
  refine (unhide HC2).mono ?_
  rintro ee w4 ⟨rfl, K4⟩
  have HKd := hide ((unhide HKc).trans K4)
  have Ga := heap_alloc_new w4 (.cells #[.int .i64 0, .slice none 0 0, .slice none 0 0] 33)
  clear K4 HC2 kc2 HKc
  go_wp2_with (refine wpList_store_sig rfl (.tmp 4) (.tmp 19) rfl w4.heap.size rfl _ _ _ _ _ _ Ga rfl ⟨rfl, rfl, rfl⟩ ?_; intro w5 G5 K5)
  have Ke : Kp [] w4 w5 := ((Kp.refl [] w4).alloc (.cells #[.int .i64 0, .slice none 0 0, .slice none 0 0] 33)).then K5 (by simp)
  have K25 : Kp [] w2 w5 := ((unhide HKb).trans (unhide HKd)).trans Ke
  have K35 : Kp [] w3 w5 := (unhide HKd).trans Ke
  have HG5 : Hid (∀ w', Kp [] w5.drew w' → w'.heap[g2]? = some (.cells #[.int .i64 ((15 : Nat) : Int), .slice ap np cp, .slice aq nq cq] 33 (0, 0))) := fun w' k' => ((K35.trans (kp_drew w5)).trans k').heap (unhide HG3) (by simp)
  have HSS : Hid (∀ w', Kp [] w5.drew w' → Sl w' (.slice a1 m1 c1) sd) := fun w' k' => (unhide HS2).kept ((K25.trans (kp_drew w5)).trans k') (by simp)
  have HVV : Hid (∀ w', Kp [] w5.drew w' → SigV w' (.agg #[.int .i64 ((15 : Nat) : Int), .slice ap np cp, .slice aq nq cq]) ((15 : Nat) : Int) (sgnP sd ((15 : Nat) : Int) d) (pthP sd 15 4)) := fun w' k' => (unhide HV2).kept ((K25.trans (kp_drew w5)).trans k')
  have HGL : Hid (∀ w', Kp [] w5.drew w' → Gl w') := fun w' k' => (unhide HG).kept ((unhide HK2).trans ((K25.trans (kp_drew w5)).trans k')) (by simp)
  have HK5 := hide ((unhide HK2).trans K25)
  obtain ⟨tp, htp⟩ : ∃ t, t = topP sd := ⟨_, rfl⟩
  have HTP := hide htp
  have HTB : Hid (Bs tp) := by rw [htp]; exact (topP_ok sd).2
  have HVT : Hid (true = verP tp [109] ((15 : Nat) : Int) (sgnP sd ((15 : Nat) : Int) d) (pthP sd 15 4)) := by rw [htp, unhide HD]; exact (verP_sgn sd [109] 15 (by omega)).symm
  clear G5 K5 Ga Ke K25 K35 htp HKb HKd HG3 HV2 HS2
  go_wp2_with fail
  refine region_growC Tryd.mixed [Is (.int .i64 0), Is (.bool true), Is (.bool true), Is (.slice a1 m1 c1), SlT (tp), LitT w5.drew.heap.size [109], SlT ([109]), Is (.agg #[.int .i64 15, .slice ap np cp, .slice aq nq cq]), Is (.bool true), Is (.bool true), Is (.bool true), Is (.int .i64 23), Is (.bool true), Is (.bool true), Is (.bool true), Is (.slice a1 m1 c1), SlT (tp), LitT w5.drew.heap.size [109], SlT ([109]), Is (.agg #[.int .i64 0, .slice none 0 0, .slice none 0 0]), Is (.bool false), Is (.bool true), Is (.bool true), Is (.bool true)] [[(3, none)], [(21, some 0)], [(22, some 1)], [(1, none), (23, some 2)], [(24, some 3), (23, some 2)], [(23, some 2)], [(26, some 5), (23, some 2)], [(2, none), (23, some 2)], [(25, some 4), (27, some 6), (28, some 7), (23, some 2)], [(23, some 2), (29, some 8)], [(30, some 9)], [(5, none), (31, some 10)], [(32, some 11), (31, some 10)], [(31, some 10), (33, some 12)], [(34, some 13)], [(1, none), (35, some 14)], [(36, some 15), (35, some 14)], [(35, some 14)], [(38, some 17), (35, some 14)], [(35, some 14)], [(37, some 16), (39, some 18), (40, some 19), (35, some 14)], [(41, some 20), (35, some 14)], [(35, some 14), (42, some 21)], [(43, some 22)]] (by kernel_rfl) ?_ ?_ ?_
  · simp only [List.mem_cons, List.not_mem_nil, or_false]
    intro R hR
    rcases hR with rfl | rfl | rfl | rfl | rfl | rfl | rfl | rfl | rfl | rfl | rfl | rfl | rfl | rfl | rfl | rfl | rfl | rfl | rfl | rfl | rfl | rfl | rfl | rfl <;> first | exact stableC_is _ | exact stableC_sl _ | exact stableC_lit _ _
  · refine steps_consC (fun a w hk hn => ?_) ?_
    · have h3 : a.eval (.tmp 3) = .int .i64 0 := hn.1
      clear hn
      refine wantsC_of hk ?_
      refine wants_plain rfl ?_
      exact grown_move (.tmp 3) rfl h3
    refine steps_consC (fun a w hk hn => ?_) ?_
    · have h21 : a.eval (.tmp 21) = .int .i64 0 := hn.1
      clear hn
      refine wantsC_of hk ?_
      refine wants_plain rfl ?_
      refine grown_run (v := .bool true) ?_ (Kp.refl _ _) rfl
      obtain ⟨ρ, hρ, hc, hf, hg⟩ := eval_is a
      rw [hρ] at h21 ⊢
      simp [go_sem, hc, h21]
    refine steps_consC (fun a w hk hn => ?_) ?_
    · have h22 : a.eval (.tmp 22) = .bool true := hn.1
      clear hn
      refine wantsC_of hk ?_
      refine wants_plain rfl ?_
      exact grown_move (.tmp 22) rfl h22
    refine steps_consC (fun a w hk hn => ?_) ?_
    · have h1 : a.eval (.tmp 1) = .slice a1 m1 c1 := hn.1
      have h23 : a.eval (.tmp 23) = .bool true := hn.2.1
      clear hn
      refine wantsC_of hk ?_
      refine wants_guard (d := 23) rfl rfl h23 ?_
      exact grown_move (.tmp 1) rfl h1
    refine steps_consC (fun a w hk hn => ?_) ?_
    · have h24 : a.eval (.tmp 24) = .slice a1 m1 c1 := hn.1
      have h23 : a.eval (.tmp 23) = .bool true := hn.2.1
      clear hn
      refine wantsC_of hk ?_
      refine wants_guard (d := 23) rfl rfl h23 ?_
      refine grown_call (f := 11) rfl Tryd.func11 (by kernel_rfl) (by kernel_rfl) ?_
      simp only [List.map_toArray, List.map_cons, List.map_nil, h24]
      refine (spublic_any _ sd tp (unhide HTP) w (unhide HSS w hk) (unhide HSB) (unhide HSL) (unhide HGL w hk)).mono ?_
      rintro e w' ⟨ao, m, c, rfl, R, K⟩
      exact ⟨_, rfl, K, R⟩
    refine steps_consC (fun a w hk hn => ?_) ?_
    · have h23 : a.eval (.tmp 23) = .bool true := hn.1
      clear hn
      refine wantsC_of hk ?_
      refine wants_guard (d := 23) rfl rfl h23 ?_
      refine grown_lit hk [109] ?_ (by simp [maxLen])
      obtain ⟨ρ, hρ, hc, hf, hg⟩ := eval_is a
      rw [hρ]
      simp [go_sem, hc]
    refine steps_consC (fun a w hk hn => ?_) ?_
    · have h26 : (LitT w5.drew.heap.size [109]) (a.eval (.tmp 26)) w := hn.1
      have h23 : a.eval (.tmp 23) = .bool true := hn.2.1
      clear hn
      exact wantsC_lit hk (by rw [wanted_iff (d := 23) rfl rfl h23]; rfl) (.tmp 26) rfl [109] h26
    refine steps_consC (fun a w hk hn => ?_) ?_
    · have h2 : a.eval (.tmp 2) = .pointer (some ⟨g2, 0, none⟩) := hn.1
      have h23 : a.eval (.tmp 23) = .bool true := hn.2.1
      clear hn
      refine wantsC_of hk ?_
      refine wants_guard (d := 23) rfl rfl h23 ?_
      exact grown_loadsig (.tmp 2) rfl g2 _ _ _ _ h2 (unhide HG5 w hk) rfl
    refine steps_consC (fun a w hk hn => ?_) ?_
    · have h25 : Sl w (a.eval (.tmp 25)) (tp) := hn.1
      have h27 : Sl w (a.eval (.tmp 27)) ([109]) := hn.2.1
      have h28 : a.eval (.tmp 28) = .agg #[.int .i64 15, .slice ap np cp, .slice aq nq cq] := hn.2.2.1
      have h23 : a.eval (.tmp 23) = .bool true := hn.2.2.2.1
      clear hn
      refine wantsC_of hk ?_
      refine wants_guard (d := 23) rfl rfl h23 ?_
      refine grown_call (f := 16) rfl Tryd.func16 (by kernel_rfl) (by kernel_rfl) ?_
      simp only [List.map_toArray, List.map_cons, List.map_nil, h28]
      refine (sverify_any _ tp _ [109] _ _ _ _ true (unhide HVT) w h25 (unhide HTB) h27 bs109 (by simp) (unhide HVV w hk) (unhide HGL w hk)).mono ?_
      rintro e w' ⟨rfl, K⟩
      exact ⟨_, rfl, K, rfl⟩
    refine steps_consC (fun a w hk hn => ?_) ?_
    · have h23 : a.eval (.tmp 23) = .bool true := hn.1
      have h29 : a.eval (.tmp 29) = .bool true := hn.2.1
      clear hn
      refine wantsC_of hk ?_
      refine wants_plain rfl ?_
      exact grown_pick _ _ _ true rfl h23 h29
    refine steps_consC (fun a w hk hn => ?_) ?_
    · have h30 : a.eval (.tmp 30) = .bool true := hn.1
      clear hn
      refine wantsC_of hk ?_
      refine wants_plain rfl ?_
      exact grown_move (.tmp 30) rfl h30
    refine steps_consC (fun a w hk hn => ?_) ?_
    · have h5 : a.eval (.tmp 5) = .int .i64 23 := hn.1
      have h31 : a.eval (.tmp 31) = .bool true := hn.2.1
      clear hn
      refine wantsC_of hk ?_
      refine wants_guard (d := 31) rfl rfl h31 ?_
      exact grown_move (.tmp 5) rfl h5
    refine steps_consC (fun a w hk hn => ?_) ?_
    · have h32 : a.eval (.tmp 32) = .int .i64 23 := hn.1
      have h31 : a.eval (.tmp 31) = .bool true := hn.2.1
      clear hn
      refine wantsC_of hk ?_
      refine wants_guard (d := 31) rfl rfl h31 ?_
      refine grown_run (v := .bool true) ?_ (Kp.refl _ _) rfl
      obtain ⟨ρ, hρ, hc, hf, hg⟩ := eval_is a
      rw [hρ] at h32 ⊢
      simp [go_sem, hc, h32]
    refine steps_consC (fun a w hk hn => ?_) ?_
    · have h31 : a.eval (.tmp 31) = .bool true := hn.1
      have h33 : a.eval (.tmp 33) = .bool true := hn.2.1
      clear hn
      refine wantsC_of hk ?_
      refine wants_plain rfl ?_
      exact grown_pick _ _ _ true rfl h31 h33
    refine steps_consC (fun a w hk hn => ?_) ?_
    · have h34 : a.eval (.tmp 34) = .bool true := hn.1
      clear hn
      refine wantsC_of hk ?_
      refine wants_plain rfl ?_
      exact grown_move (.tmp 34) rfl h34
    refine steps_consC (fun a w hk hn => ?_) ?_
    · have h1 : a.eval (.tmp 1) = .slice a1 m1 c1 := hn.1
      have h35 : a.eval (.tmp 35) = .bool true := hn.2.1
      clear hn
      refine wantsC_of hk ?_
      refine wants_guard (d := 35) rfl rfl h35 ?_
      exact grown_move (.tmp 1) rfl h1
    refine steps_consC (fun a w hk hn => ?_) ?_
    · have h36 : a.eval (.tmp 36) = .slice a1 m1 c1 := hn.1
      have h35 : a.eval (.tmp 35) = .bool true := hn.2.1
      clear hn
      refine wantsC_of hk ?_
      refine wants_guard (d := 35) rfl rfl h35 ?_
      refine grown_call (f := 11) rfl Tryd.func11 (by kernel_rfl) (by kernel_rfl) ?_
      simp only [List.map_toArray, List.map_cons, List.map_nil, h36]
      refine (spublic_any _ sd tp (unhide HTP) w (unhide HSS w hk) (unhide HSB) (unhide HSL) (unhide HGL w hk)).mono ?_
      rintro e w' ⟨ao, m, c, rfl, R, K⟩
      exact ⟨_, rfl, K, R⟩
    refine steps_consC (fun a w hk hn => ?_) ?_
    · have h35 : a.eval (.tmp 35) = .bool true := hn.1
      clear hn
      refine wantsC_of hk ?_
      refine wants_guard (d := 35) rfl rfl h35 ?_
      refine grown_lit hk [109] ?_ (by simp [maxLen])
      obtain ⟨ρ, hρ, hc, hf, hg⟩ := eval_is a
      rw [hρ]
      simp [go_sem, hc]
    refine steps_consC (fun a w hk hn => ?_) ?_
    · have h38 : (LitT w5.drew.heap.size [109]) (a.eval (.tmp 38)) w := hn.1
      have h35 : a.eval (.tmp 35) = .bool true := hn.2.1
      clear hn
      exact wantsC_lit hk (by rw [wanted_iff (d := 35) rfl rfl h35]; rfl) (.tmp 38) rfl [109] h38
    refine steps_consC (fun a w hk hn => ?_) ?_
    · have h35 : a.eval (.tmp 35) = .bool true := hn.1
      clear hn
      refine wantsC_of hk ?_
      refine wants_guard (d := 35) rfl rfl h35 ?_
      refine grown_run (v := .agg #[.int .i64 0, .slice none 0 0, .slice none 0 0]) ?_ (Kp.refl _ _) rfl
      obtain ⟨ρ, hρ, hc, hf, hg⟩ := eval_is a
      rw [hρ]
      simp [go_sem]
    refine steps_consC (fun a w hk hn => ?_) ?_
    · have h37 : Sl w (a.eval (.tmp 37)) (tp) := hn.1
      have h39 : Sl w (a.eval (.tmp 39)) ([109]) := hn.2.1
      have h40 : a.eval (.tmp 40) = .agg #[.int .i64 0, .slice none 0 0, .slice none 0 0] := hn.2.2.1
      have h35 : a.eval (.tmp 35) = .bool true := hn.2.2.2.1
      clear hn
      refine wantsC_of hk ?_
      refine wants_guard (d := 35) rfl rfl h35 ?_
      refine grown_call (f := 16) rfl Tryd.func16 (by kernel_rfl) (by kernel_rfl) ?_
      simp only [List.map_toArray, List.map_cons, List.map_nil, h40]
      refine (sverify_any _ tp _ [109] _ 0 [] [] false (verP_zero _ _).symm w h37 (unhide HTB) h39 bs109 (by simp) (sig0_v w) (unhide HGL w hk)).mono ?_
      rintro e w' ⟨rfl, K⟩
      exact ⟨_, rfl, K, rfl⟩
    refine steps_consC (fun a w hk hn => ?_) ?_
    · have h41 : a.eval (.tmp 41) = .bool false := hn.1
      have h35 : a.eval (.tmp 35) = .bool true := hn.2.1
      clear hn
      refine wantsC_of hk ?_
      refine wants_guard (d := 35) rfl rfl h35 ?_
      refine grown_run (v := .bool true) ?_ (Kp.refl _ _) rfl
      obtain ⟨ρ, hρ, hc, hf, hg⟩ := eval_is a
      rw [hρ] at h41 ⊢
      simp [go_sem, h41]
    refine steps_consC (fun a w hk hn => ?_) ?_
    · have h35 : a.eval (.tmp 35) = .bool true := hn.1
      have h42 : a.eval (.tmp 42) = .bool true := hn.2.1
      clear hn
      refine wantsC_of hk ?_
      refine wants_plain rfl ?_
      exact grown_pick _ _ _ true rfl h35 h42
    refine steps_consC (fun a w hk hn => ?_) ?_
    · have h43 : a.eval (.tmp 43) = .bool true := hn.1
      clear hn
      refine wantsC_of hk ?_
      refine wants_plain rfl ?_
      exact grown_assign (.tmp 43) rfl h43
    exact trivial
  intro W1 hkW1
  rintro _ rfl
  rintro _ rfl
  rintro _ rfl
  rintro _ rfl
  intro v25 h25
  intro v26 h26
  intro v27 h27
  rintro _ rfl
  rintro _ rfl
  rintro _ rfl
  rintro _ rfl
  rintro _ rfl
  rintro _ rfl
  rintro _ rfl
  rintro _ rfl
  rintro _ rfl
  intro v37 h37
  intro v38 h38
  intro v39 h39
  rintro _ rfl
  rintro _ rfl
  rintro _ rfl
  rintro _ rfl
  rintro _ rfl
  refine fin_nil ?_
  simp only [Act.put, List.set_cons_zero, List.set_cons_succ, List.setIfInBounds_toArray]
  go_wp2_with fail
  go_ret
  exact ⟨rfl, (unhide HK5).trans ((kp_drew w5).trans hkW1)⟩
end Go.Proofs.YtdioaohejoflcaaDoor

/-
  The contract of the law package's same.
-/
namespace Go.Proofs.YtdioaohejoflcaaDoor
open Go.RowKit
open Go.Proofs

set_option maxRecDepth 100000 in
set_option maxHeartbeats 4000000 in
theorem lsame_any (vpub : Value) (pub : List Int) (vm : Value) (ms : List Int) (v : Value) (i : Int) (ps qs : List (List Int)) (w : World) (hP : Sl w vpub pub) (hPB : Bs pub) (hM : Sl w vm ms) (hMB : Bs ms) (hml : ms.length ≤ 1000) (hV : SigV w v i ps qs) (hi : -9223372036854775808 ≤ i ∧ i ≤ 9223372036854775807) (hG : Gl w) :
    Calls Tryd.prog 17 #[vpub, vm, v] w fun e w' => e = .returned (.bool true) ∧ Kp [] w w' := by
  obtain ⟨c, hc⟩ : ∃ c, c = rgtP i ps qs := ⟨_, rfl⟩
  obtain ⟨b, hb⟩ : ∃ b, b = verP pub ms i ps qs := ⟨_, rfl⟩
  obtain ⟨ap, np, cp, aq, nq, cq, lp, lq, rfl, hLP, hp, hLQ, hq, hnp, hnq⟩ := hV.shape
  clear hLP hp hLQ hq hnp hnq
  obtain ⟨ob, hob⟩ : ∃ o : Obj, o = (.cells #[.int .i64 i, .slice ap np cp, .slice aq nq cq] 33) := ⟨_, rfl⟩
  have K1 : Kp [] w (w.alloc ob) := (Kp.refl [] w).alloc ob
  have HE1 := hide (fun (h : rgtP i ps qs = true) => encode_any _ i ps qs h (w.alloc ob) (hV.kept K1))
  have HE0 := hide (fun (h : rgtP i ps qs = false) => encode_no _ i ps qs h (w.alloc ob) (hV.kept K1))
  have HR := hide (fun w' (k' : Kp [] w w') => refright_any _ i ps qs c hc w' (hV.kept k') hi)
  have hl1 := load_sig (w.alloc ob) w.heap.size (.int .i64 i) (.slice ap np cp) (.slice aq nq cq) (0, 0) (by rw [hob]; exact heap_alloc_new w _)
  have G1 : Hid ((w.alloc ob).heap[w.heap.size]? = some (.cells #[.int .i64 i, .slice ap np cp, .slice aq nq cq] 33 (0, 0))) := by rw [hob]; exact heap_alloc_new w _
  rw [hob] at K1 HE1 HE0 hl1 G1
  have HK1 := hide K1
  have HPu := hide hP
  have HPB := hide hPB
  have HM := hide hM
  have HMB := hide hMB
  have HG := hide hG
  have HVw := hide hV
  have HI := hide hi
  have HB := hide hb
  have HCC := hide hc
  obtain ⟨au, cu, hvu, _⟩ := hP
  obtain ⟨nu, hnu⟩ : ∃ n, n = pub.length := ⟨_, rfl⟩
  rw [← hnu] at hvu
  subst hvu
  obtain ⟨am, cm, hvm, _⟩ := hM
  obtain ⟨nm, hnm⟩ : ∃ n, n = ms.length := ⟨_, rfl⟩
  rw [← hnm] at hvm
  subst hvm
  clear hob K1 hPB hMB hV hG hnu hnm hb hc hi
  cases c
  · have HE := hide (unhide HE0 (unhide HCC).symm)
    clear HE0 HE1
    go_enter Tryd.func17, Tryd.ntmps17
    go_wp2_with fail
    refine (unhide HE).mono ?_
    rintro ee w2 ⟨rfl, K2⟩
    have HK2 := hide ((unhide HK1).trans K2)
    have G2 := K2.heap (unhide G1) (by simp)
    have HG2 := hide G2
    have HC2 := hide (unhide HR w2 (unhide HK2))
    clear K2 HE HK1 G1 G2 hl1 HR
    go_wp2_with (refine wpList_load_row rfl 33 (.tmp 5) rfl w.heap.size rfl 33 _ (0, 0) _ (unhide HG2) Tryd.underlying33 rfl Tryd.sigSize ?_)
    refine (unhide HC2).mono ?_
    rintro ee w3 ⟨rfl, K3⟩
    have HK3 := hide ((unhide HK2).trans K3)
    have HG3 : Hid (∀ w', Kp [] w3.drew w' → w'.heap[w.heap.size]? = some (.cells #[.int .i64 i, .slice ap np cp, .slice aq nq cq] 33 (0, 0))) := fun w' k' => (K3.trans ((kp_drew w3).trans k')).heap (unhide HG2) (by simp)
    have HVV : Hid (∀ w', Kp [] w3.drew w' → SigV w' (.agg #[.int .i64 i, .slice ap np cp, .slice aq nq cq]) i ps qs) := fun w' k' => (unhide HVw).kept ((unhide HK3).trans ((kp_drew w3).trans k'))
    have HPP : Hid (∀ w', Kp [] w3.drew w' → Sl w' (.slice au nu cu) pub) := fun w' k' => (unhide HPu).kept ((unhide HK3).trans ((kp_drew w3).trans k')) (by simp)
    have HMM : Hid (∀ w', Kp [] w3.drew w' → Sl w' (.slice am nm cm) ms) := fun w' k' => (unhide HM).kept ((unhide HK3).trans ((kp_drew w3).trans k')) (by simp)
    have HGL : Hid (∀ w', Kp [] w3.drew w' → Gl w') := fun w' k' => (unhide HG).kept ((unhide HK3).trans ((kp_drew w3).trans k')) (by simp)
    clear K3 HC2 HG2 HK2
    go_wp2_with fail
    obtain ⟨g0, hg0⟩ : ∃ g, g = w.heap.size := ⟨_, rfl⟩
    rw [← hg0] at HG3 ⊢
    clear hg0
    refine region_grow Tryd.mixed [Is (.agg #[.int .i64 i, .slice ap np cp, .slice aq nq cq]), Is (.bool false), Is (.bool false), Is (.bool false), Is (.bool false), Is (.slice au nu cu), Is (.slice am nm cm), Is (.agg #[.int .i64 i, .slice ap np cp, .slice aq nq cq]), Is (.bool b), Is (.slice au nu cu), Is (.slice am nm cm), Is (.agg #[.int .i64 i, .slice ap np cp, .slice aq nq cq]), Is (.bool b), Is (.bool false), Is (.bool false), Is (.bool false), Is (.int .i64 12), Is (.bool false), Is (.bool false), Is (.bool false), Is (.bool false)] [[(5, none)], [(17, some 0)], [(9, none)], [(18, some 1), (19, some 2)], [(20, some 3)], [(0, none), (21, some 4)], [(1, none), (21, some 4)], [(5, none), (21, some 4)], [(22, some 5), (23, some 6), (24, some 7), (21, some 4)], [(0, none), (21, some 4)], [(1, none), (21, some 4)], [(5, none), (21, some 4)], [(26, some 9), (27, some 10), (28, some 11), (21, some 4)], [(25, some 8), (29, some 12), (21, some 4)], [(21, some 4), (30, some 13)], [(31, some 14)], [(8, none), (32, some 15)], [(33, some 16), (32, some 15)], [(9, none), (32, some 15)], [(34, some 17), (35, some 18), (32, some 15)], [(32, some 15), (36, some 19)]] (by kernel_rfl) ?_ ?_ ?_
    · simp only [List.mem_cons, List.not_mem_nil, or_false]
      intro R hR
      rcases hR with rfl | rfl | rfl | rfl | rfl | rfl | rfl | rfl | rfl | rfl | rfl | rfl | rfl | rfl | rfl | rfl | rfl | rfl | rfl | rfl | rfl <;> first | exact stable_is _
    · refine steps_cons (fun a w hk hn => ?_) ?_
      · have h5 : a.eval (.tmp 5) = .pointer (some ⟨g0, 0, none⟩) := hn.1
        clear hn
        refine wants_plain rfl ?_
        exact grown_loadsig (.tmp 5) rfl _ _ _ _ _ h5 (unhide HG3 w hk) rfl
      refine steps_cons (fun a w hk hn => ?_) ?_
      · have h17 : a.eval (.tmp 17) = .agg #[.int .i64 i, .slice ap np cp, .slice aq nq cq] := hn.1
        clear hn
        refine wants_plain rfl ?_
        refine grown_call (f := 37) rfl Tryd.func37 (by kernel_rfl) (by kernel_rfl) ?_
        simp only [List.map_toArray, List.map_cons, List.map_nil, h17]
        refine (sright_any _ i ps qs false (unhide HCC) w (unhide HVV w hk)).mono ?_
        rintro e w' ⟨rfl, K⟩
        exact ⟨_, rfl, K, rfl⟩
      refine steps_cons (fun a w hk hn => ?_) ?_
      · have h9 : a.eval (.tmp 9) = .bool false := hn.1
        clear hn
        refine wants_plain rfl ?_
        exact grown_move (.tmp 9) rfl h9
      refine steps_cons (fun a w hk hn => ?_) ?_
      · have h18 : a.eval (.tmp 18) = .bool false := hn.1
        have h19 : a.eval (.tmp 19) = .bool false := hn.2.1
        clear hn
        refine wants_plain rfl ?_
        refine grown_run (v := .bool false) ?_ (Kp.refl _ _) rfl
        obtain ⟨ρ, hρ, hc, hf, hg⟩ := eval_is a
        rw [hρ] at h18 h19 ⊢
        simp [go_sem, h18, h19]
      refine steps_cons (fun a w hk hn => ?_) ?_
      · have h20 : a.eval (.tmp 20) = .bool false := hn.1
        clear hn
        refine wants_plain rfl ?_
        exact grown_move (.tmp 20) rfl h20
      refine steps_cons (fun a w hk hn => ?_) ?_
      · have h0 : a.eval (.tmp 0) = .slice au nu cu := hn.1
        have h21 : a.eval (.tmp 21) = .bool false := hn.2.1
        clear hn
        refine wants_guard (d := 21) rfl rfl h21 ?_
        exact grown_move (.tmp 0) rfl h0
      refine steps_cons (fun a w hk hn => ?_) ?_
      · have h1 : a.eval (.tmp 1) = .slice am nm cm := hn.1
        have h21 : a.eval (.tmp 21) = .bool false := hn.2.1
        clear hn
        refine wants_guard (d := 21) rfl rfl h21 ?_
        exact grown_move (.tmp 1) rfl h1
      refine steps_cons (fun a w hk hn => ?_) ?_
      · have h5 : a.eval (.tmp 5) = .pointer (some ⟨g0, 0, none⟩) := hn.1
        have h21 : a.eval (.tmp 21) = .bool false := hn.2.1
        clear hn
        refine wants_guard (d := 21) rfl rfl h21 ?_
        exact grown_loadsig (.tmp 5) rfl _ _ _ _ _ h5 (unhide HG3 w hk) rfl
      refine steps_cons (fun a w hk hn => ?_) ?_
      · have h22 : a.eval (.tmp 22) = .slice au nu cu := hn.1
        have h23 : a.eval (.tmp 23) = .slice am nm cm := hn.2.1
        have h24 : a.eval (.tmp 24) = .agg #[.int .i64 i, .slice ap np cp, .slice aq nq cq] := hn.2.2.1
        have h21 : a.eval (.tmp 21) = .bool false := hn.2.2.2.1
        clear hn
        refine wants_guard (d := 21) rfl rfl h21 ?_
        refine grown_call (f := 16) rfl Tryd.func16 (by kernel_rfl) (by kernel_rfl) ?_
        simp only [List.map_toArray, List.map_cons, List.map_nil, h22, h23, h24]
        refine (sverify_any _ pub _ ms _ i ps qs b (unhide HB) w (unhide HPP w hk) (unhide HPB) (unhide HMM w hk) (unhide HMB) hml (unhide HVV w hk) (unhide HGL w hk)).mono ?_
        rintro e w' ⟨rfl, K⟩
        exact ⟨_, rfl, K, rfl⟩
      refine steps_cons (fun a w hk hn => ?_) ?_
      · have h0 : a.eval (.tmp 0) = .slice au nu cu := hn.1
        have h21 : a.eval (.tmp 21) = .bool false := hn.2.1
        clear hn
        refine wants_guard (d := 21) rfl rfl h21 ?_
        exact grown_move (.tmp 0) rfl h0
      refine steps_cons (fun a w hk hn => ?_) ?_
      · have h1 : a.eval (.tmp 1) = .slice am nm cm := hn.1
        have h21 : a.eval (.tmp 21) = .bool false := hn.2.1
        clear hn
        refine wants_guard (d := 21) rfl rfl h21 ?_
        exact grown_move (.tmp 1) rfl h1
      refine steps_cons (fun a w hk hn => ?_) ?_
      · have h5 : a.eval (.tmp 5) = .pointer (some ⟨g0, 0, none⟩) := hn.1
        have h21 : a.eval (.tmp 21) = .bool false := hn.2.1
        clear hn
        refine wants_guard (d := 21) rfl rfl h21 ?_
        exact grown_loadsig (.tmp 5) rfl _ _ _ _ _ h5 (unhide HG3 w hk) rfl
      refine steps_cons (fun a w hk hn => ?_) ?_
      · have h26 : a.eval (.tmp 26) = .slice au nu cu := hn.1
        have h27 : a.eval (.tmp 27) = .slice am nm cm := hn.2.1
        have h28 : a.eval (.tmp 28) = .agg #[.int .i64 i, .slice ap np cp, .slice aq nq cq] := hn.2.2.1
        have h21 : a.eval (.tmp 21) = .bool false := hn.2.2.2.1
        clear hn
        refine wants_guard (d := 21) rfl rfl h21 ?_
        refine grown_call (f := 27) rfl Tryd.func27 (by kernel_rfl) (by kernel_rfl) ?_
        simp only [List.map_toArray, List.map_cons, List.map_nil, h26, h27, h28]
        refine (refverify_any _ pub _ ms _ i ps qs b (unhide HB) w (unhide HPP w hk) (unhide HPB) (unhide HMM w hk) (unhide HMB) hml (unhide HVV w hk) (unhide HI)).mono ?_
        rintro e w' ⟨rfl, K⟩
        exact ⟨_, rfl, K, rfl⟩
      refine steps_cons (fun a w hk hn => ?_) ?_
      · have h25 : a.eval (.tmp 25) = .bool b := hn.1
        have h29 : a.eval (.tmp 29) = .bool b := hn.2.1
        have h21 : a.eval (.tmp 21) = .bool false := hn.2.2.1
        clear hn
        refine wants_guard (d := 21) rfl rfl h21 ?_
        refine grown_run (v := .bool false) ?_ (Kp.refl _ _) rfl
        obtain ⟨ρ, hρ, hc, hf, hg⟩ := eval_is a
        rw [hρ] at h25 h29 ⊢
        simp [go_sem, h25, h29]
      refine steps_cons (fun a w hk hn => ?_) ?_
      · have h21 : a.eval (.tmp 21) = .bool false := hn.1
        have h30 : a.eval (.tmp 30) = .bool false := hn.2.1
        clear hn
        refine wants_plain rfl ?_
        exact grown_pick _ _ _ false rfl h21 h30
      refine steps_cons (fun a w hk hn => ?_) ?_
      · have h31 : a.eval (.tmp 31) = .bool false := hn.1
        clear hn
        refine wants_plain rfl ?_
        exact grown_move (.tmp 31) rfl h31
      refine steps_cons (fun a w hk hn => ?_) ?_
      · have h8 : a.eval (.tmp 8) = .int .i64 12 := hn.1
        have h32 : a.eval (.tmp 32) = .bool false := hn.2.1
        clear hn
        refine wants_guard (d := 32) rfl rfl h32 ?_
        exact grown_move (.tmp 8) rfl h8
      refine steps_cons (fun a w hk hn => ?_) ?_
      · have h33 : a.eval (.tmp 33) = .int .i64 12 := hn.1
        have h32 : a.eval (.tmp 32) = .bool false := hn.2.1
        clear hn
        refine wants_guard (d := 32) rfl rfl h32 ?_
        refine grown_run (v := .bool false) ?_ (Kp.refl _ _) rfl
        obtain ⟨ρ, hρ, hc, hf, hg⟩ := eval_is a
        rw [hρ] at h33 ⊢
        simp [go_sem, hc, h33]
      refine steps_cons (fun a w hk hn => ?_) ?_
      · have h9 : a.eval (.tmp 9) = .bool false := hn.1
        have h32 : a.eval (.tmp 32) = .bool false := hn.2.1
        clear hn
        refine wants_guard (d := 32) rfl rfl h32 ?_
        exact grown_move (.tmp 9) rfl h9
      refine steps_cons (fun a w hk hn => ?_) ?_
      · have h34 : a.eval (.tmp 34) = .bool false := hn.1
        have h35 : a.eval (.tmp 35) = .bool false := hn.2.1
        have h32 : a.eval (.tmp 32) = .bool false := hn.2.2.1
        clear hn
        refine wants_guard (d := 32) rfl rfl h32 ?_
        refine grown_run (v := .bool false) ?_ (Kp.refl _ _) rfl
        obtain ⟨ρ, hρ, hc, hf, hg⟩ := eval_is a
        rw [hρ] at h34 h35 ⊢
        simp [go_sem, h34, h35]
      refine steps_cons (fun a w hk hn => ?_) ?_
      · have h32 : a.eval (.tmp 32) = .bool false := hn.1
        have h36 : a.eval (.tmp 36) = .bool false := hn.2.1
        clear hn
        refine wants_plain rfl ?_
        exact grown_pick _ _ _ false rfl h32 h36
      exact trivial
    intro W1 hkW1
    rintro _ rfl
    rintro _ rfl
    rintro _ rfl
    rintro _ rfl
    rintro _ rfl
    rintro _ rfl
    rintro _ rfl
    rintro _ rfl
    rintro _ rfl
    rintro _ rfl
    rintro _ rfl
    rintro _ rfl
    rintro _ rfl
    rintro _ rfl
    rintro _ rfl
    rintro _ rfl
    rintro _ rfl
    rintro _ rfl
    rintro _ rfl
    rintro _ rfl
    rintro _ rfl
    refine fin_nil ?_
    simp only [Act.put, List.set_cons_zero, List.set_cons_succ, List.setIfInBounds_toArray]
    go_wp2_with fail
    refine region_grow Tryd.mixed [Is (.bool false), Is (.bool false), Is (undef), Is (undef), Is (undef), Is (undef), Is (undef), Is (undef), Is (.bool false), Is (.bool false), Is (.bool false), Is (.bool true), Is (.bool true), Is (.int .i64 12), Is (.bool true), Is (.bool true), Is (.bool true), Is (.slice none 0 0), Is (.int .i64 0), Is (.bool true), Is (.bool true), Is (.bool true), Is (.bool true)] [[(9, none)], [(38, some 0)], [(7, none), (39, some 1)], [(40, some 2), (39, some 1)], [(5, none), (39, some 1)], [(42, some 4), (39, some 1)], [(43, some 5), (39, some 1)], [(41, some 3), (44, some 6), (39, some 1)], [(39, some 1), (45, some 7)], [(46, some 8)], [(9, none), (47, some 9)], [(48, some 10), (47, some 9)], [(49, some 11), (47, some 9)], [(8, none), (50, some 12)], [(51, some 13), (50, some 12)], [(50, some 12), (52, some 14), (47, some 9)], [(53, some 15), (47, some 9)], [(7, none), (54, some 16)], [(55, some 17), (54, some 16)], [(56, some 18), (54, some 16)], [(54, some 16), (57, some 19), (47, some 9)], [(47, some 9), (58, some 20)], [(59, some 21)]] (by kernel_rfl) ?_ ?_ ?_
    · simp only [List.mem_cons, List.not_mem_nil, or_false]
      intro R hR
      rcases hR with rfl | rfl | rfl | rfl | rfl | rfl | rfl | rfl | rfl | rfl | rfl | rfl | rfl | rfl | rfl | rfl | rfl | rfl | rfl | rfl | rfl | rfl | rfl <;> first | exact stable_is _
    · refine steps_cons (fun a w hk hn => ?_) ?_
      · have h9 : a.eval (.tmp 9) = .bool false := hn.1
        clear hn
        refine wants_plain rfl ?_
        exact grown_move (.tmp 9) rfl h9
      refine steps_cons (fun a w hk hn => ?_) ?_
      · have h38 : a.eval (.tmp 38) = .bool false := hn.1
        clear hn
        refine wants_plain rfl ?_
        exact grown_move (.tmp 38) rfl h38
      refine steps_cons (fun a w hk hn => ?_) ?_
      · have h7 : a.eval (.tmp 7) = .slice none 0 0 := hn.1
        have h39 : a.eval (.tmp 39) = .bool false := hn.2.1
        clear hn
        exact wants_not (d := 39) rfl rfl h39 rfl
      refine steps_cons (fun a w hk hn => ?_) ?_
      · have h40 : a.eval (.tmp 40) = undef := hn.1
        have h39 : a.eval (.tmp 39) = .bool false := hn.2.1
        clear hn
        exact wants_not (d := 39) rfl rfl h39 rfl
      refine steps_cons (fun a w hk hn => ?_) ?_
      · have h5 : a.eval (.tmp 5) = .pointer (some ⟨g0, 0, none⟩) := hn.1
        have h39 : a.eval (.tmp 39) = .bool false := hn.2.1
        clear hn
        exact wants_not (d := 39) rfl rfl h39 rfl
      refine steps_cons (fun a w hk hn => ?_) ?_
      · have h42 : a.eval (.tmp 42) = undef := hn.1
        have h39 : a.eval (.tmp 39) = .bool false := hn.2.1
        clear hn
        exact wants_not (d := 39) rfl rfl h39 rfl
      refine steps_cons (fun a w hk hn => ?_) ?_
      · have h43 : a.eval (.tmp 43) = undef := hn.1
        have h39 : a.eval (.tmp 39) = .bool false := hn.2.1
        clear hn
        exact wants_not (d := 39) rfl rfl h39 rfl
      refine steps_cons (fun a w hk hn => ?_) ?_
      · have h41 : a.eval (.tmp 41) = undef := hn.1
        have h44 : a.eval (.tmp 44) = undef := hn.2.1
        have h39 : a.eval (.tmp 39) = .bool false := hn.2.2.1
        clear hn
        exact wants_not (d := 39) rfl rfl h39 rfl
      refine steps_cons (fun a w hk hn => ?_) ?_
      · have h39 : a.eval (.tmp 39) = .bool false := hn.1
        have h45 : a.eval (.tmp 45) = undef := hn.2.1
        clear hn
        refine wants_plain rfl ?_
        exact grown_pick _ _ _ false rfl h39 rfl
      refine steps_cons (fun a w hk hn => ?_) ?_
      · have h46 : a.eval (.tmp 46) = .bool false := hn.1
        clear hn
        refine wants_plain rfl ?_
        exact grown_move (.tmp 46) rfl h46
      refine steps_cons (fun a w hk hn => ?_) ?_
      · have h9 : a.eval (.tmp 9) = .bool false := hn.1
        have h47 : a.eval (.tmp 47) = .bool false := hn.2.1
        clear hn
        refine wants_guard (d := 47) rfl rfl h47 ?_
        exact grown_move (.tmp 9) rfl h9
      refine steps_cons (fun a w hk hn => ?_) ?_
      · have h48 : a.eval (.tmp 48) = .bool false := hn.1
        have h47 : a.eval (.tmp 47) = .bool false := hn.2.1
        clear hn
        refine wants_guard (d := 47) rfl rfl h47 ?_
        refine grown_run (v := .bool true) ?_ (Kp.refl _ _) rfl
        obtain ⟨ρ, hρ, hc, hf, hg⟩ := eval_is a
        rw [hρ] at h48 ⊢
        simp [go_sem, h48]
      refine steps_cons (fun a w hk hn => ?_) ?_
      · have h49 : a.eval (.tmp 49) = .bool true := hn.1
        have h47 : a.eval (.tmp 47) = .bool false := hn.2.1
        clear hn
        refine wants_guard (d := 47) rfl rfl h47 ?_
        exact grown_move (.tmp 49) rfl h49
      refine steps_cons (fun a w hk hn => ?_) ?_
      · have h8 : a.eval (.tmp 8) = .int .i64 12 := hn.1
        have h50 : a.eval (.tmp 50) = .bool true := hn.2.1
        clear hn
        refine wants_guard (d := 50) rfl rfl h50 ?_
        exact grown_move (.tmp 8) rfl h8
      refine steps_cons (fun a w hk hn => ?_) ?_
      · have h51 : a.eval (.tmp 51) = .int .i64 12 := hn.1
        have h50 : a.eval (.tmp 50) = .bool true := hn.2.1
        clear hn
        refine wants_guard (d := 50) rfl rfl h50 ?_
        refine grown_run (v := .bool true) ?_ (Kp.refl _ _) rfl
        obtain ⟨ρ, hρ, hc, hf, hg⟩ := eval_is a
        rw [hρ] at h51 ⊢
        simp [go_sem, hc, h51]
      refine steps_cons (fun a w hk hn => ?_) ?_
      · have h50 : a.eval (.tmp 50) = .bool true := hn.1
        have h52 : a.eval (.tmp 52) = .bool true := hn.2.1
        have h47 : a.eval (.tmp 47) = .bool false := hn.2.2.1
        clear hn
        refine wants_guard (d := 47) rfl rfl h47 ?_
        exact grown_pick _ _ _ true rfl h50 h52
      refine steps_cons (fun a w hk hn => ?_) ?_
      · have h53 : a.eval (.tmp 53) = .bool true := hn.1
        have h47 : a.eval (.tmp 47) = .bool false := hn.2.1
        clear hn
        refine wants_guard (d := 47) rfl rfl h47 ?_
        exact grown_move (.tmp 53) rfl h53
      refine steps_cons (fun a w hk hn => ?_) ?_
      · have h7 : a.eval (.tmp 7) = .slice none 0 0 := hn.1
        have h54 : a.eval (.tmp 54) = .bool true := hn.2.1
        clear hn
        refine wants_guard (d := 54) rfl rfl h54 ?_
        exact grown_move (.tmp 7) rfl h7
      refine steps_cons (fun a w hk hn => ?_) ?_
      · have h55 : a.eval (.tmp 55) = .slice none 0 0 := hn.1
        have h54 : a.eval (.tmp 54) = .bool true := hn.2.1
        clear hn
        refine wants_guard (d := 54) rfl rfl h54 ?_
        refine grown_run (v := .int .i64 0) ?_ (Kp.refl _ _) rfl
        obtain ⟨ρ, hρ, hc, hf, hg⟩ := eval_is a
        rw [hρ] at h55 ⊢
        simp [go_sem, h55]
      refine steps_cons (fun a w hk hn => ?_) ?_
      · have h56 : a.eval (.tmp 56) = .int .i64 0 := hn.1
        have h54 : a.eval (.tmp 54) = .bool true := hn.2.1
        clear hn
        refine wants_guard (d := 54) rfl rfl h54 ?_
        refine grown_run (v := .bool true) ?_ (Kp.refl _ _) rfl
        obtain ⟨ρ, hρ, hc, hf, hg⟩ := eval_is a
        rw [hρ] at h56 ⊢
        simp [go_sem, hc, h56]
      refine steps_cons (fun a w hk hn => ?_) ?_
      · have h54 : a.eval (.tmp 54) = .bool true := hn.1
        have h57 : a.eval (.tmp 57) = .bool true := hn.2.1
        have h47 : a.eval (.tmp 47) = .bool false := hn.2.2.1
        clear hn
        refine wants_guard (d := 47) rfl rfl h47 ?_
        exact grown_pick _ _ _ true rfl h54 h57
      refine steps_cons (fun a w hk hn => ?_) ?_
      · have h47 : a.eval (.tmp 47) = .bool false := hn.1
        have h58 : a.eval (.tmp 58) = .bool true := hn.2.1
        clear hn
        refine wants_plain rfl ?_
        exact grown_pick _ _ _ false rfl h47 h58
      refine steps_cons (fun a w hk hn => ?_) ?_
      · have h59 : a.eval (.tmp 59) = .bool true := hn.1
        clear hn
        refine wants_plain rfl ?_
        exact grown_assign (.tmp 59) rfl h59
      exact trivial
    intro W2 hkW2
    rintro _ rfl
    rintro _ rfl
    rintro _ rfl
    rintro _ rfl
    rintro _ rfl
    rintro _ rfl
    rintro _ rfl
    rintro _ rfl
    rintro _ rfl
    rintro _ rfl
    rintro _ rfl
    rintro _ rfl
    rintro _ rfl
    rintro _ rfl
    rintro _ rfl
    rintro _ rfl
    rintro _ rfl
    rintro _ rfl
    rintro _ rfl
    rintro _ rfl
    rintro _ rfl
    rintro _ rfl
    rintro _ rfl
    refine fin_nil ?_
    simp only [Act.put, List.set_cons_zero, List.set_cons_succ, List.setIfInBounds_toArray]
    go_wp2_with fail
    go_ret
    exact ⟨rfl, ((unhide HK3).trans ((kp_drew w3).trans hkW1)).trans ((kp_drew W1).trans hkW2)⟩
  · have HRT : Hid (rgtP i ps qs = true) := hide (unhide HCC).symm
    have HE := hide (unhide HE1 (unhide HRT))
    clear HE0 HE1
    go_enter Tryd.func17, Tryd.ntmps17
    go_wp2_with fail
    refine (unhide HE).mono ?_
    rintro ee w2 ⟨a2, m2, c2, rfl, R2, K2⟩
    have HK2 := hide ((unhide HK1).trans K2)
    have G2 := K2.heap (unhide G1) (by simp)
    have HG2 := hide G2
    have HC2 := hide (unhide HR w2 (unhide HK2))
    obtain ⟨en, hen⟩ : ∃ e, e = encP i ps qs := ⟨_, rfl⟩
    rw [← hen] at R2
    have HS2 := hide R2.sl
    have HEN := hide hen
    clear K2 HE HK1 G1 G2 hl1 HR R2 hen
    go_wp2_with (refine wpList_load_row rfl 33 (.tmp 5) rfl w.heap.size rfl 33 _ (0, 0) _ (unhide HG2) Tryd.underlying33 rfl Tryd.sigSize ?_)
    refine (unhide HC2).mono ?_
    rintro ee w3 ⟨rfl, K3⟩
    have HK3 := hide ((unhide HK2).trans K3)
    have HG3 : Hid (∀ w', Kp [] w3.drew w' → w'.heap[w.heap.size]? = some (.cells #[.int .i64 i, .slice ap np cp, .slice aq nq cq] 33 (0, 0))) := fun w' k' => (K3.trans ((kp_drew w3).trans k')).heap (unhide HG2) (by simp)
    have HVV : Hid (∀ w', Kp [] w3.drew w' → SigV w' (.agg #[.int .i64 i, .slice ap np cp, .slice aq nq cq]) i ps qs) := fun w' k' => (unhide HVw).kept ((unhide HK3).trans ((kp_drew w3).trans k'))
    have HPP : Hid (∀ w', Kp [] w3.drew w' → Sl w' (.slice au nu cu) pub) := fun w' k' => (unhide HPu).kept ((unhide HK3).trans ((kp_drew w3).trans k')) (by simp)
    have HMM : Hid (∀ w', Kp [] w3.drew w' → Sl w' (.slice am nm cm) ms) := fun w' k' => (unhide HM).kept ((unhide HK3).trans ((kp_drew w3).trans k')) (by simp)
    have HGL : Hid (∀ w', Kp [] w3.drew w' → Gl w') := fun w' k' => (unhide HG).kept ((unhide HK3).trans ((kp_drew w3).trans k')) (by simp)
    have HSB : Hid (∀ w', Kp [] w3.drew w' → Sl w' (.slice a2 m2 c2) en) := fun w' k' => (unhide HS2).kept (K3.trans ((kp_drew w3).trans k')) (by simp)
    obtain ⟨SE, hSE⟩ : ∃ S, S = strOfNums en := ⟨_, rfl⟩
    have HSE := hide hSE
    clear K3 HC2 HG2 HK2 HS2 hSE
    go_wp2_with fail
    obtain ⟨g0, hg0⟩ : ∃ g, g = w.heap.size := ⟨_, rfl⟩
    rw [← hg0] at HG3 ⊢
    clear hg0
    refine region_grow Tryd.mixed [Is (.agg #[.int .i64 i, .slice ap np cp, .slice aq nq cq]), Is (.bool true), Is (.bool true), Is (.bool false), Is (.bool false), Is (.slice au nu cu), Is (.slice am nm cm), Is (.agg #[.int .i64 i, .slice ap np cp, .slice aq nq cq]), Is (.bool b), Is (.slice au nu cu), Is (.slice am nm cm), Is (.agg #[.int .i64 i, .slice ap np cp, .slice aq nq cq]), Is (.bool b), Is (.bool false), Is (.bool false), Is (.bool false), Is (.int .i64 0), Is (.bool true), Is (.bool true), Is (.bool false), Is (.bool false)] [[(5, none)], [(17, some 0)], [(9, none)], [(18, some 1), (19, some 2)], [(20, some 3)], [(0, none), (21, some 4)], [(1, none), (21, some 4)], [(5, none), (21, some 4)], [(22, some 5), (23, some 6), (24, some 7), (21, some 4)], [(0, none), (21, some 4)], [(1, none), (21, some 4)], [(5, none), (21, some 4)], [(26, some 9), (27, some 10), (28, some 11), (21, some 4)], [(25, some 8), (29, some 12), (21, some 4)], [(21, some 4), (30, some 13)], [(31, some 14)], [(8, none), (32, some 15)], [(33, some 16), (32, some 15)], [(9, none), (32, some 15)], [(34, some 17), (35, some 18), (32, some 15)], [(32, some 15), (36, some 19)]] (by kernel_rfl) ?_ ?_ ?_
    · simp only [List.mem_cons, List.not_mem_nil, or_false]
      intro R hR
      rcases hR with rfl | rfl | rfl | rfl | rfl | rfl | rfl | rfl | rfl | rfl | rfl | rfl | rfl | rfl | rfl | rfl | rfl | rfl | rfl | rfl | rfl <;> first | exact stable_is _
    · refine steps_cons (fun a w hk hn => ?_) ?_
      · have h5 : a.eval (.tmp 5) = .pointer (some ⟨g0, 0, none⟩) := hn.1
        clear hn
        refine wants_plain rfl ?_
        exact grown_loadsig (.tmp 5) rfl _ _ _ _ _ h5 (unhide HG3 w hk) rfl
      refine steps_cons (fun a w hk hn => ?_) ?_
      · have h17 : a.eval (.tmp 17) = .agg #[.int .i64 i, .slice ap np cp, .slice aq nq cq] := hn.1
        clear hn
        refine wants_plain rfl ?_
        refine grown_call (f := 37) rfl Tryd.func37 (by kernel_rfl) (by kernel_rfl) ?_
        simp only [List.map_toArray, List.map_cons, List.map_nil, h17]
        refine (sright_any _ i ps qs true (unhide HCC) w (unhide HVV w hk)).mono ?_
        rintro e w' ⟨rfl, K⟩
        exact ⟨_, rfl, K, rfl⟩
      refine steps_cons (fun a w hk hn => ?_) ?_
      · have h9 : a.eval (.tmp 9) = .bool true := hn.1
        clear hn
        refine wants_plain rfl ?_
        exact grown_move (.tmp 9) rfl h9
      refine steps_cons (fun a w hk hn => ?_) ?_
      · have h18 : a.eval (.tmp 18) = .bool true := hn.1
        have h19 : a.eval (.tmp 19) = .bool true := hn.2.1
        clear hn
        refine wants_plain rfl ?_
        refine grown_run (v := .bool false) ?_ (Kp.refl _ _) rfl
        obtain ⟨ρ, hρ, hc, hf, hg⟩ := eval_is a
        rw [hρ] at h18 h19 ⊢
        simp [go_sem, h18, h19]
      refine steps_cons (fun a w hk hn => ?_) ?_
      · have h20 : a.eval (.tmp 20) = .bool false := hn.1
        clear hn
        refine wants_plain rfl ?_
        exact grown_move (.tmp 20) rfl h20
      refine steps_cons (fun a w hk hn => ?_) ?_
      · have h0 : a.eval (.tmp 0) = .slice au nu cu := hn.1
        have h21 : a.eval (.tmp 21) = .bool false := hn.2.1
        clear hn
        refine wants_guard (d := 21) rfl rfl h21 ?_
        exact grown_move (.tmp 0) rfl h0
      refine steps_cons (fun a w hk hn => ?_) ?_
      · have h1 : a.eval (.tmp 1) = .slice am nm cm := hn.1
        have h21 : a.eval (.tmp 21) = .bool false := hn.2.1
        clear hn
        refine wants_guard (d := 21) rfl rfl h21 ?_
        exact grown_move (.tmp 1) rfl h1
      refine steps_cons (fun a w hk hn => ?_) ?_
      · have h5 : a.eval (.tmp 5) = .pointer (some ⟨g0, 0, none⟩) := hn.1
        have h21 : a.eval (.tmp 21) = .bool false := hn.2.1
        clear hn
        refine wants_guard (d := 21) rfl rfl h21 ?_
        exact grown_loadsig (.tmp 5) rfl _ _ _ _ _ h5 (unhide HG3 w hk) rfl
      refine steps_cons (fun a w hk hn => ?_) ?_
      · have h22 : a.eval (.tmp 22) = .slice au nu cu := hn.1
        have h23 : a.eval (.tmp 23) = .slice am nm cm := hn.2.1
        have h24 : a.eval (.tmp 24) = .agg #[.int .i64 i, .slice ap np cp, .slice aq nq cq] := hn.2.2.1
        have h21 : a.eval (.tmp 21) = .bool false := hn.2.2.2.1
        clear hn
        refine wants_guard (d := 21) rfl rfl h21 ?_
        refine grown_call (f := 16) rfl Tryd.func16 (by kernel_rfl) (by kernel_rfl) ?_
        simp only [List.map_toArray, List.map_cons, List.map_nil, h22, h23, h24]
        refine (sverify_any _ pub _ ms _ i ps qs b (unhide HB) w (unhide HPP w hk) (unhide HPB) (unhide HMM w hk) (unhide HMB) hml (unhide HVV w hk) (unhide HGL w hk)).mono ?_
        rintro e w' ⟨rfl, K⟩
        exact ⟨_, rfl, K, rfl⟩
      refine steps_cons (fun a w hk hn => ?_) ?_
      · have h0 : a.eval (.tmp 0) = .slice au nu cu := hn.1
        have h21 : a.eval (.tmp 21) = .bool false := hn.2.1
        clear hn
        refine wants_guard (d := 21) rfl rfl h21 ?_
        exact grown_move (.tmp 0) rfl h0
      refine steps_cons (fun a w hk hn => ?_) ?_
      · have h1 : a.eval (.tmp 1) = .slice am nm cm := hn.1
        have h21 : a.eval (.tmp 21) = .bool false := hn.2.1
        clear hn
        refine wants_guard (d := 21) rfl rfl h21 ?_
        exact grown_move (.tmp 1) rfl h1
      refine steps_cons (fun a w hk hn => ?_) ?_
      · have h5 : a.eval (.tmp 5) = .pointer (some ⟨g0, 0, none⟩) := hn.1
        have h21 : a.eval (.tmp 21) = .bool false := hn.2.1
        clear hn
        refine wants_guard (d := 21) rfl rfl h21 ?_
        exact grown_loadsig (.tmp 5) rfl _ _ _ _ _ h5 (unhide HG3 w hk) rfl
      refine steps_cons (fun a w hk hn => ?_) ?_
      · have h26 : a.eval (.tmp 26) = .slice au nu cu := hn.1
        have h27 : a.eval (.tmp 27) = .slice am nm cm := hn.2.1
        have h28 : a.eval (.tmp 28) = .agg #[.int .i64 i, .slice ap np cp, .slice aq nq cq] := hn.2.2.1
        have h21 : a.eval (.tmp 21) = .bool false := hn.2.2.2.1
        clear hn
        refine wants_guard (d := 21) rfl rfl h21 ?_
        refine grown_call (f := 27) rfl Tryd.func27 (by kernel_rfl) (by kernel_rfl) ?_
        simp only [List.map_toArray, List.map_cons, List.map_nil, h26, h27, h28]
        refine (refverify_any _ pub _ ms _ i ps qs b (unhide HB) w (unhide HPP w hk) (unhide HPB) (unhide HMM w hk) (unhide HMB) hml (unhide HVV w hk) (unhide HI)).mono ?_
        rintro e w' ⟨rfl, K⟩
        exact ⟨_, rfl, K, rfl⟩
      refine steps_cons (fun a w hk hn => ?_) ?_
      · have h25 : a.eval (.tmp 25) = .bool b := hn.1
        have h29 : a.eval (.tmp 29) = .bool b := hn.2.1
        have h21 : a.eval (.tmp 21) = .bool false := hn.2.2.1
        clear hn
        refine wants_guard (d := 21) rfl rfl h21 ?_
        refine grown_run (v := .bool false) ?_ (Kp.refl _ _) rfl
        obtain ⟨ρ, hρ, hc, hf, hg⟩ := eval_is a
        rw [hρ] at h25 h29 ⊢
        simp [go_sem, h25, h29]
      refine steps_cons (fun a w hk hn => ?_) ?_
      · have h21 : a.eval (.tmp 21) = .bool false := hn.1
        have h30 : a.eval (.tmp 30) = .bool false := hn.2.1
        clear hn
        refine wants_plain rfl ?_
        exact grown_pick _ _ _ false rfl h21 h30
      refine steps_cons (fun a w hk hn => ?_) ?_
      · have h31 : a.eval (.tmp 31) = .bool false := hn.1
        clear hn
        refine wants_plain rfl ?_
        exact grown_move (.tmp 31) rfl h31
      refine steps_cons (fun a w hk hn => ?_) ?_
      · have h8 : a.eval (.tmp 8) = .int .i64 0 := hn.1
        have h32 : a.eval (.tmp 32) = .bool false := hn.2.1
        clear hn
        refine wants_guard (d := 32) rfl rfl h32 ?_
        exact grown_move (.tmp 8) rfl h8
      refine steps_cons (fun a w hk hn => ?_) ?_
      · have h33 : a.eval (.tmp 33) = .int .i64 0 := hn.1
        have h32 : a.eval (.tmp 32) = .bool false := hn.2.1
        clear hn
        refine wants_guard (d := 32) rfl rfl h32 ?_
        refine grown_run (v := .bool true) ?_ (Kp.refl _ _) rfl
        obtain ⟨ρ, hρ, hc, hf, hg⟩ := eval_is a
        rw [hρ] at h33 ⊢
        simp [go_sem, hc, h33]
      refine steps_cons (fun a w hk hn => ?_) ?_
      · have h9 : a.eval (.tmp 9) = .bool true := hn.1
        have h32 : a.eval (.tmp 32) = .bool false := hn.2.1
        clear hn
        refine wants_guard (d := 32) rfl rfl h32 ?_
        exact grown_move (.tmp 9) rfl h9
      refine steps_cons (fun a w hk hn => ?_) ?_
      · have h34 : a.eval (.tmp 34) = .bool true := hn.1
        have h35 : a.eval (.tmp 35) = .bool true := hn.2.1
        have h32 : a.eval (.tmp 32) = .bool false := hn.2.2.1
        clear hn
        refine wants_guard (d := 32) rfl rfl h32 ?_
        refine grown_run (v := .bool false) ?_ (Kp.refl _ _) rfl
        obtain ⟨ρ, hρ, hc, hf, hg⟩ := eval_is a
        rw [hρ] at h34 h35 ⊢
        simp [go_sem, h34, h35]
      refine steps_cons (fun a w hk hn => ?_) ?_
      · have h32 : a.eval (.tmp 32) = .bool false := hn.1
        have h36 : a.eval (.tmp 36) = .bool false := hn.2.1
        clear hn
        refine wants_plain rfl ?_
        exact grown_pick _ _ _ false rfl h32 h36
      exact trivial
    intro W1 hkW1
    rintro _ rfl
    rintro _ rfl
    rintro _ rfl
    rintro _ rfl
    rintro _ rfl
    rintro _ rfl
    rintro _ rfl
    rintro _ rfl
    rintro _ rfl
    rintro _ rfl
    rintro _ rfl
    rintro _ rfl
    rintro _ rfl
    rintro _ rfl
    rintro _ rfl
    rintro _ rfl
    rintro _ rfl
    rintro _ rfl
    rintro _ rfl
    rintro _ rfl
    rintro _ rfl
    refine fin_nil ?_
    simp only [Act.put, List.set_cons_zero, List.set_cons_succ, List.setIfInBounds_toArray]
    have HSW : ∀ w', Kp [] W1.drew w' → Sl w' (.slice a2 m2 c2) en := fun w' k' => unhide HSB w' (hkW1.trans ((kp_drew W1).trans k'))
    have HGW : Hid (∀ w', Kp [] W1.drew w' → w'.heap[g0]? = some (.cells #[.int .i64 i, .slice ap np cp, .slice aq nq cq] 33 (0, 0))) := fun w' k' => unhide HG3 w' (hkW1.trans ((kp_drew W1).trans k'))
    have HVW : Hid (∀ w', Kp [] W1.drew w' → SigV w' (.agg #[.int .i64 i, .slice ap np cp, .slice aq nq cq]) i ps qs) := fun w' k' => unhide HVV w' (hkW1.trans ((kp_drew W1).trans k'))
    go_wp2_with fail
    refine region_grow Tryd.mixed [Is (.bool true), Is (.bool true), Is (.slice a2 m2 c2), Is (.string SE), Is (.agg #[.int .i64 i, .slice ap np cp, .slice aq nq cq]), SlT (en), Is (.string SE), Is (.bool true), Is (.bool true), Is (.bool true), Is (undef), Is (undef), Is (undef), Is (undef), Is (undef), Is (undef), Is (undef), Is (undef), Is (undef), Is (undef), Is (undef), Is (.bool true), Is (.bool true)] [[(9, none)], [(38, some 0)], [(7, none), (39, some 1)], [(40, some 2), (39, some 1)], [(5, none), (39, some 1)], [(42, some 4), (39, some 1)], [(43, some 5), (39, some 1)], [(41, some 3), (44, some 6), (39, some 1)], [(39, some 1), (45, some 7)], [(46, some 8)], [(9, none), (47, some 9)], [(48, some 10), (47, some 9)], [(49, some 11), (47, some 9)], [(8, none), (50, some 12)], [(51, some 13), (50, some 12)], [(50, some 12), (52, some 14), (47, some 9)], [(53, some 15), (47, some 9)], [(7, none), (54, some 16)], [(55, some 17), (54, some 16)], [(56, some 18), (54, some 16)], [(54, some 16), (57, some 19), (47, some 9)], [(47, some 9), (58, some 20)], [(59, some 21)]] (by kernel_rfl) ?_ ?_ ?_
    · simp only [List.mem_cons, List.not_mem_nil, or_false]
      intro R hR
      rcases hR with rfl | rfl | rfl | rfl | rfl | rfl | rfl | rfl | rfl | rfl | rfl | rfl | rfl | rfl | rfl | rfl | rfl | rfl | rfl | rfl | rfl | rfl | rfl <;> first | exact stable_is _ | exact stable_sl _
    · refine steps_cons (fun a w hk hn => ?_) ?_
      · have h9 : a.eval (.tmp 9) = .bool true := hn.1
        clear hn
        refine wants_plain rfl ?_
        exact grown_move (.tmp 9) rfl h9
      refine steps_cons (fun a w hk hn => ?_) ?_
      · have h38 : a.eval (.tmp 38) = .bool true := hn.1
        clear hn
        refine wants_plain rfl ?_
        exact grown_move (.tmp 38) rfl h38
      refine steps_cons (fun a w hk hn => ?_) ?_
      · have h7 : a.eval (.tmp 7) = .slice a2 m2 c2 := hn.1
        have h39 : a.eval (.tmp 39) = .bool true := hn.2.1
        clear hn
        refine wants_guard (d := 39) rfl rfl h39 ?_
        exact grown_move (.tmp 7) rfl h7
      refine steps_cons (fun a w hk hn => ?_) ?_
      · have h40 : a.eval (.tmp 40) = .slice a2 m2 c2 := hn.1
        have h39 : a.eval (.tmp 39) = .bool true := hn.2.1
        clear hn
        refine wants_guard (d := 39) rfl rfl h39 ?_
        exact grown_conv (.tmp 40) _ _ 5 (en) rfl (by rw [h40]; exact HSW w hk) Tryd.underlying24 Tryd.underlying5 Tryd.underlying9 (congrArg Value.string (unhide HSE).symm)
      refine steps_cons (fun a w hk hn => ?_) ?_
      · have h5 : a.eval (.tmp 5) = .pointer (some ⟨g0, 0, none⟩) := hn.1
        have h39 : a.eval (.tmp 39) = .bool true := hn.2.1
        clear hn
        refine wants_guard (d := 39) rfl rfl h39 ?_
        exact grown_loadsig (.tmp 5) rfl _ _ _ _ _ h5 (unhide HGW w hk) rfl
      refine steps_cons (fun a w hk hn => ?_) ?_
      · have h42 : a.eval (.tmp 42) = .agg #[.int .i64 i, .slice ap np cp, .slice aq nq cq] := hn.1
        have h39 : a.eval (.tmp 39) = .bool true := hn.2.1
        clear hn
        refine wants_guard (d := 39) rfl rfl h39 ?_
        refine grown_call (f := 42) rfl Tryd.func42 (by kernel_rfl) (by kernel_rfl) ?_
        simp only [List.map_toArray, List.map_cons, List.map_nil, h42]
        refine (refencode_any _ i ps qs (unhide HRT) w (unhide HVW w hk)).mono ?_
        rintro e w' ⟨ao, m, c, rfl, R, K⟩
        rw [← unhide HEN] at R
        exact ⟨_, rfl, K, R.sl⟩
      refine steps_cons (fun a w hk hn => ?_) ?_
      · have h43 : Sl w (a.eval (.tmp 43)) (en) := hn.1
        have h39 : a.eval (.tmp 39) = .bool true := hn.2.1
        clear hn
        refine wants_guard (d := 39) rfl rfl h39 ?_
        exact grown_conv (.tmp 43) _ _ 5 _ rfl h43 Tryd.underlying24 Tryd.underlying5 Tryd.underlying9 (congrArg Value.string (unhide HSE).symm)
      refine steps_cons (fun a w hk hn => ?_) ?_
      · have h41 : a.eval (.tmp 41) = .string SE := hn.1
        have h44 : a.eval (.tmp 44) = .string SE := hn.2.1
        have h39 : a.eval (.tmp 39) = .bool true := hn.2.2.1
        clear hn
        refine wants_guard (d := 39) rfl rfl h39 ?_
        refine grown_run (v := .bool true) ?_ (Kp.refl _ _) rfl
        obtain ⟨ρ, hρ, hc, hf, hg⟩ := eval_is a
        rw [hρ] at h41 h44 ⊢
        simp [go_sem, h41, h44]
      refine steps_cons (fun a w hk hn => ?_) ?_
      · have h39 : a.eval (.tmp 39) = .bool true := hn.1
        have h45 : a.eval (.tmp 45) = .bool true := hn.2.1
        clear hn
        refine wants_plain rfl ?_
        exact grown_pick _ _ _ true rfl h39 h45
      refine steps_cons (fun a w hk hn => ?_) ?_
      · have h46 : a.eval (.tmp 46) = .bool true := hn.1
        clear hn
        refine wants_plain rfl ?_
        exact grown_move (.tmp 46) rfl h46
      refine steps_cons (fun a w hk hn => ?_) ?_
      · have h9 : a.eval (.tmp 9) = .bool true := hn.1
        have h47 : a.eval (.tmp 47) = .bool true := hn.2.1
        clear hn
        exact wants_not (d := 47) rfl rfl h47 rfl
      refine steps_cons (fun a w hk hn => ?_) ?_
      · have h48 : a.eval (.tmp 48) = undef := hn.1
        have h47 : a.eval (.tmp 47) = .bool true := hn.2.1
        clear hn
        exact wants_not (d := 47) rfl rfl h47 rfl
      refine steps_cons (fun a w hk hn => ?_) ?_
      · have h49 : a.eval (.tmp 49) = undef := hn.1
        have h47 : a.eval (.tmp 47) = .bool true := hn.2.1
        clear hn
        exact wants_not (d := 47) rfl rfl h47 rfl
      refine steps_cons (fun a w hk hn => ?_) ?_
      · have h8 : a.eval (.tmp 8) = .int .i64 0 := hn.1
        have h50 : a.eval (.tmp 50) = undef := hn.2.1
        clear hn
        exact wants_none (d := 50) rfl rfl h50 rfl
      refine steps_cons (fun a w hk hn => ?_) ?_
      · have h51 : a.eval (.tmp 51) = undef := hn.1
        have h50 : a.eval (.tmp 50) = undef := hn.2.1
        clear hn
        exact wants_none (d := 50) rfl rfl h50 rfl
      refine steps_cons (fun a w hk hn => ?_) ?_
      · have h50 : a.eval (.tmp 50) = undef := hn.1
        have h52 : a.eval (.tmp 52) = undef := hn.2.1
        have h47 : a.eval (.tmp 47) = .bool true := hn.2.2.1
        clear hn
        exact wants_not (d := 47) rfl rfl h47 rfl
      refine steps_cons (fun a w hk hn => ?_) ?_
      · have h53 : a.eval (.tmp 53) = undef := hn.1
        have h47 : a.eval (.tmp 47) = .bool true := hn.2.1
        clear hn
        exact wants_not (d := 47) rfl rfl h47 rfl
      refine steps_cons (fun a w hk hn => ?_) ?_
      · have h7 : a.eval (.tmp 7) = .slice a2 m2 c2 := hn.1
        have h54 : a.eval (.tmp 54) = undef := hn.2.1
        clear hn
        exact wants_none (d := 54) rfl rfl h54 rfl
      refine steps_cons (fun a w hk hn => ?_) ?_
      · have h55 : a.eval (.tmp 55) = undef := hn.1
        have h54 : a.eval (.tmp 54) = undef := hn.2.1
        clear hn
        exact wants_none (d := 54) rfl rfl h54 rfl
      refine steps_cons (fun a w hk hn => ?_) ?_
      · have h56 : a.eval (.tmp 56) = undef := hn.1
        have h54 : a.eval (.tmp 54) = undef := hn.2.1
        clear hn
        exact wants_none (d := 54) rfl rfl h54 rfl
      refine steps_cons (fun a w hk hn => ?_) ?_
      · have h54 : a.eval (.tmp 54) = undef := hn.1
        have h57 : a.eval (.tmp 57) = undef := hn.2.1
        have h47 : a.eval (.tmp 47) = .bool true := hn.2.2.1
        clear hn
        exact wants_not (d := 47) rfl rfl h47 rfl
      refine steps_cons (fun a w hk hn => ?_) ?_
      · have h47 : a.eval (.tmp 47) = .bool true := hn.1
        have h58 : a.eval (.tmp 58) = undef := hn.2.1
        clear hn
        refine wants_plain rfl ?_
        exact grown_pick _ _ _ true rfl h47 rfl
      refine steps_cons (fun a w hk hn => ?_) ?_
      · have h59 : a.eval (.tmp 59) = .bool true := hn.1
        clear hn
        refine wants_plain rfl ?_
        exact grown_assign (.tmp 59) rfl h59
      exact trivial
    intro W2 hkW2
    rintro _ rfl
    rintro _ rfl
    rintro _ rfl
    rintro _ rfl
    rintro _ rfl
    intro v43 h43
    rintro _ rfl
    rintro _ rfl
    rintro _ rfl
    rintro _ rfl
    rintro _ rfl
    rintro _ rfl
    rintro _ rfl
    rintro _ rfl
    rintro _ rfl
    rintro _ rfl
    rintro _ rfl
    rintro _ rfl
    rintro _ rfl
    rintro _ rfl
    rintro _ rfl
    rintro _ rfl
    rintro _ rfl
    refine fin_nil ?_
    simp only [Act.put, List.set_cons_zero, List.set_cons_succ, List.setIfInBounds_toArray]
    go_wp2_with fail
    go_ret
    exact ⟨rfl, ((unhide HK3).trans ((kp_drew w3).trans hkW1)).trans ((kp_drew W1).trans hkW2)⟩
end Go.Proofs.YtdioaohejoflcaaDoor

/-
  Lists of slices as arguments; the contracts of the law package's helpers Few and Sized over this seat's program.
-/
namespace Go.Proofs.YtdioaohejoflcaaDoor
open Go.ChangeShapes Go.WideShapes Go.ChangeAt Go.RowKit
open Go.Deep

section
variable {H : Type} {enc : TypeId × Value → H} {w : World}
theorem lists_of_trod {v : Value} {fuel : Nat} {x : DataW H × List MemPlace} (h : DataW.trod enc Tryd.prog w 0 (fun _ => true) true fuel 31 [v] = some x) : ∃ l, Lists w v l := by
  rcases open_slice1 Tryd.underlying31 (by kernel_rfl) h with ⟨hcs, _⟩ | ⟨a, len, cap, m, n, V, D, Pl, hcs, _, hl, hm, hmm, _, hx⟩
  · simp only [List.cons.injEq, and_true] at hcs
    subst hcs
    exact ⟨[], none, 0, rfl, by simp, fun i hi => by cases hi⟩
  · simp only [List.cons.injEq, and_true] at hcs
    subst hcs
    simp only [if_true] at hmm
    subst hmm
    have key : ∀ i, i < len → ∃ d : Value × List Int, w.cell? (a.add i) = some d.1 ∧ Sl w d.1 d.2 ∧ Bs d.2 := fun i hi => by
      obtain ⟨h1, h2⟩ := hx i (by omega)
      obtain ⟨bs, hs, hB⟩ := bytes_of_trod h2
      exact ⟨(V i, bs), h1, hs, hB⟩
    have inst : Inhabited (Value × List Int) := ⟨(.slice none 0 0, [])⟩
    obtain ⟨F, hF⟩ := @choose_lt (Value × List Int) inst len (fun i d => w.cell? (a.add i) = some d.1 ∧ Sl w d.1 d.2 ∧ Bs d.2) key
    have hlen : ((List.range len).map F).length = len := by simp
    refine ⟨(List.range len).map F, some a, m, by rw [hlen], by unfold maxLen at hm; omega, fun i hi => ?_⟩
    rw [hlen] at hi
    have s0 := (hF 0 (by omega)).1
    obtain ⟨hA, hS, hB⟩ := hF i hi
    obtain ⟨b, off, spot⟩ := a
    have hspot : ((⟨b, off, spot⟩ : Addr).add 0).spot = none := World.cell?_spot s0
    have hspot' : spot = none := by rw [Addr.add_zero'] at hspot; exact hspot
    subst hspot'
    rw [Addr.add_lit] at hA
    exact ⟨b, off, rfl, by simpa using hA, by simpa using hS, by simpa using hB⟩
end

theorem Lists.take {w : World} {ao : Option Addr} {len c n : Nat} {l : List (Value × List Int)} (h : Lists w (.slice ao len c) l) (hn : n ≤ l.length) : Lists w (.slice ao n c) (l.take n) := by
  obtain ⟨ao', c', e, h1, h2⟩ := h
  cases e
  have hl : (l.take n).length = n := by simp; omega
  refine ⟨ao, c, by rw [hl], by omega, fun i hi => ?_⟩
  obtain ⟨b, off, e, h3, h4, h5⟩ := h2 i (by omega)
  have e2 : (l.take n)[i] = l[i]'(by omega) := List.getElem_take
  rw [e2]
  exact ⟨b, off, e, h3, h4, h5⟩

theorem Tryd.infoBytes : (Tryd.prog.info? 24).map (fun i => (i.zero, i.size, i.bytes)) = some (some (.slice none 0 0), 1, 24) := by kernel_rfl

/-- the row of texts that Few has made so far. -/
def FewAt (w wr : World) (l : List (Value × List Int)) (most k : Nat) (o : Value) : Prop :=
  ∃ l' : List (Value × List Int), l'.length = k ∧ wr.ownsRow w.heap.size 24 1 o k (l'.map (·.1)) ∧ Kp [] w wr ∧ (∀ x ∈ l', Sl w x.1 x.2) ∧ l'.map (·.2) = (l.take k).map fun x => x.2.take most

theorem FewAt.lists {w wr : World} {l : List (Value × List Int)} {most k : Nat} {o : Value} (h : FewAt w wr l most k o) (hB : ∀ x ∈ l, Bs x.2) (hk : k ≤ 1000) : ∃ l', Lists wr o l' ∧ l'.map (·.2) = (l.take k).map fun x => x.2.take most := by
  obtain ⟨l', rfl, ho, hK, hS, he⟩ := h
  refine ⟨l', ?_, he⟩
  have hBs : ∀ x ∈ l', Bs x.2 := fun x hx => by
    have : x.2 ∈ l'.map (·.2) := List.mem_map_of_mem hx
    rw [he] at this
    obtain ⟨y, hy, hy2⟩ := List.mem_map.1 this
    rw [← hy2]
    exact (hB y (List.mem_of_mem_take hy)).take _
  rcases ho.2 with ⟨rfl, h0⟩ | ⟨g, cap, cur, rfl, _, hg, _⟩
  · exact ⟨none, 0, by rw [h0], by omega, fun i hi => by omega⟩
  · refine ⟨some ⟨g, 0, none⟩, cap, rfl, by omega, fun i hi => ⟨g, 0, rfl, ?_, (hS _ (List.getElem_mem hi)).kept hK (by simp), hBs _ (List.getElem_mem hi)⟩⟩
    have := ho.cells (g := g) rfl i l'[i].1 (by simp [List.getElem?_eq_getElem hi])
    rwa [Addr.add_lit] at this

theorem made_all {w : World} {base g n : Nat} {xs : List Value} (h : w.ownsRow base 5 1 (.slice (some ⟨g, 0, none⟩) n n) n xs) : w.heap[g]? = some (.cells xs.toArray 5 (0, 0)) := by
  rcases h.2 with ⟨h', _⟩ | ⟨g', cap, cur, h', _, hg, _, _, hs, ht⟩
  · cases h'
  · cases h'
    have e : cur.toList = xs := by rw [← ht]; exact (List.take_of_length_le (by simp [hs])).symm
    rw [hg, ← e]
theorem made_zero : (madeCells (Value.int .u8 0).cells (32 * 1)).toList = (List.replicate 32 (0 : Int)).map (Value.int .u8) := by
  rw [List.map_replicate]
  exact toList_madeCells_one (.int .u8 0) 32
theorem splice_zero (bs : List Int) : splice ((List.replicate 32 (0 : Int)).map (Value.int .u8)) 0 ((bs.take 32).map (Value.int .u8)) = (bs.take 32 ++ List.replicate (32 - (bs.take 32).length) 0).map (Value.int .u8) := by
  unfold splice
  rw [List.take_zero, List.nil_append, List.map_append, ← List.map_drop, List.drop_replicate]
  congr 3
  simp

set_option maxRecDepth 100000 in
set_option maxHeartbeats 1000000 in
theorem sized_any (v : Value) (bs : List Int) (w : World) (hS : Sl w v bs) (hB : Bs bs) :
    Calls Tryd.prog 21 #[v, .int .i64 32] w fun e w' => ∃ g bs', e = .returned (.slice (some ⟨g, 0, none⟩) 32 32) ∧ bs'.length = 32 ∧ Bs bs' ∧ Row w' w.heap.size (.slice (some ⟨g, 0, none⟩) 32 32) bs' ∧ Kp [] w w' := by
  obtain ⟨i0, hi0, hz0, hz1, hz2⟩ := info_parts Tryd.info5
  obtain ⟨ao, c, rfl, h1, h2, h3, h4⟩ := hS
  obtain ⟨cs, hcs⟩ : ∃ cs, cs = (bs.take 32).map (Value.int .u8) := ⟨_, rfl⟩
  have hcl : cs.length = min bs.length 32 := by rw [hcs]; simp; omega
  have hone : ∀ u ∈ cs, u.oneCell' = true := by
    rw [hcs]
    intro u hu
    obtain ⟨x, _, rfl⟩ := List.mem_map.1 hu
    rfl
  have hsrc : Hid (∀ a, ao = some a → ∀ j u, cs[j]? = some u → w.cell? (a.add j) = some u) := by
    rw [hcs]
    intro a ha j u hu
    refine h4 a ha j u ?_
    rw [List.map_take, List.getElem?_take] at hu
    split at hu
    · exact hu
    · cases hu
  have HC := hide hcs
  have HCL := hide hcl
  have HB := hide hB
  obtain ⟨nb, hnb⟩ : ∃ n, n = bs.length := ⟨_, rfl⟩
  rw [← hnb] at h1 HCL ⊢
  clear h4 hcs hcl hB hnb
  go_enter Tryd.func21, Tryd.ntmps21
  have hszi : (Tryd.prog.info? 5).map (·.size) = some 1 := by rw [hi0]; simp [hz1]
  go_wp2_with (at_make; refine wpList_make_full _ rfl _ _ 24 rfl w.heap.size 5 i0 (.int .u8 0) 1 Tryd.underlying24 hi0 hz0 hz1 .i64 .i64 _ _ 32 rfl rfl (by omega) (by omega) (by rw [hz2]; omega) (by unfold maxLen; omega) (Nat.le_refl _) ?_; intro w1 o1 g1; refine Hid.out ?_)
  rw [made_zero] at o1
  have hcur := hide (made_all o1)
  have B1 : Below w.heap.size w w1 := (Below.refl _ _).grown g1 (Nat.le_refl _) (by intro k hk; cases hk)
  have HB1 := hide B1
  obtain ⟨zs, hzs⟩ : ∃ zs, zs = (List.replicate 32 (0 : Int)).map (Value.int .u8) := ⟨_, rfl⟩
  rw [← hzs] at hcur
  have HZ := hide hzs
  have HZL : Hid (zs.length = 32) := hide (by rw [hzs]; simp)
  clear o1 g1 B1 hzs
  refine hide ?_
  go_wp2_with (refine wpList_copy_splice rfl (.tmp 8) (.tmp 9) 24 24 rfl 5 Tryd.underlying24 hszi (some ⟨w.heap.size, 0, none⟩) ao 32 32 nb c rfl rfl w.heap.size 0 zs 5 (unhide hcur) cs (by have := unhide HCL; unfold Nat.min at *; omega) (fun hpos => ⟨rfl, copy_src (unhide HB1) (unhide hsrc) (h3) (by have := unhide HCL; omega)⟩) (by have := unhide HCL; have := unhide HZL; omega) hone w.heap.size w (unhide HB1) (Nat.le_refl _) ?_; intro w2 H2 B2; refine Hid.out ?_)
  have hbl : (bs.take 32 ++ List.replicate (32 - (bs.take 32).length) (0 : Int)).length = 32 := by simp; omega
  have hrow : Row w2 w.heap.size (.slice (some ⟨w.heap.size, 0, none⟩) 32 32) (bs.take 32 ++ List.replicate (32 - (bs.take 32).length) 0) := by
    have := H2.out
    rw [unhide HZ, unhide HC, splice_zero] at this
    exact row_of_block (Nat.le_refl _) this hbl (by unfold maxLen; omega)
  have hbb : Bs (bs.take 32 ++ List.replicate (32 - (bs.take 32).length) (0 : Int)) := by
    intro b hb
    rcases List.mem_append.1 hb with h | h
    · exact (unhide HB).take 32 b h
    · rw [List.eq_of_mem_replicate h]; omega
  have HRW := hide hrow
  have HBB := hide hbb
  have HBL := hide hbl
  have HK2 := hide (Kp.of_below B2)
  clear hrow hbb hbl H2 B2
  refine hide ?_
  go_wp2_with fail
  go_ret
  exact ⟨_, _, rfl, unhide HBL, unhide HBB, unhide HRW, unhide HK2⟩
end Go.Proofs.YtdioaohejoflcaaDoor

/-
  A part of a signature that is copied, put in again and turned at one place.
-/
namespace Go.Proofs.YtdioaohejoflcaaDoor
open Go.RowKit

theorem xor_bd (x y : Int) : 0 ≤ bits .xor .u8 x y ∧ bits .xor .u8 x y ≤ 255 := by
  show 0 ≤ IntKind.u8.wrap _ ∧ IntKind.u8.wrap _ ≤ 255
  simp [IntKind.wrap, IntKind.signed, IntKind.bits]
  omega
theorem xor_zero (x : Int) (h0 : 0 ≤ x) (h1 : x ≤ 255) : bits .xor .u8 x 0 = x := by
  obtain ⟨m, rfl⟩ := Int.eq_ofNat_of_zero_le h0
  have h : ∀ m ∈ List.range 256, bits .xor .u8 (m : Int) 0 = (m : Int) := by decide +kernel
  exact h m (by simp; omega)
theorem Bs.set {bs : List Int} (h : Bs bs) (i : Nat) (x : Int) (h0 : 0 ≤ x) (h1 : x ≤ 255) : Bs (bs.set i x) := fun b hb => by
  rcases List.mem_or_eq_of_mem_set hb with h2 | rfl
  · exact h b h2
  · exact ⟨h0, h1⟩
theorem Row.spot {w : World} {base n c : Nat} {ao : Option Addr} {bs : List Int} (h : Row w base (.slice ao n c) bs) (h0 : 0 < n) :
    ∃ g, ao = some ⟨g, 0, none⟩ ∧ base ≤ g ∧ g < w.heap.size ∧ (∀ k (hk : k < bs.length), w.cell? ⟨g, k, none⟩ = some (.int .u8 bs[k])) ∧ (∀ k, w.frozen? ⟨g, k, none⟩ = false) ∧ ∀ k x, Row (w.setCell ⟨g, k, none⟩ (.int .u8 x)) base (.slice ao n c) (bs.set k x) := by
  have hn := h.len
  subst hn
  rcases h.2 with ⟨h', h1⟩ | ⟨g, cap, cur, h', hb, hg, _⟩
  · injection h'; omega
  · have e : ao = some ⟨g, 0, none⟩ := by injection h'
    subst e
    have h1 : w.ownsRow base 5 1 (.slice (some ⟨g, 0, none⟩) bs.length c) bs.length (bs.map (Value.int .u8)) := h
    refine ⟨g, rfl, hb, (Array.getElem?_eq_some_iff.1 hg).1, fun k hk => ?_, fun k => h1.frozenAt k, fun k x => ?_⟩
    · rw [h1.cellAt k (by omega)]; simp [List.getElem?_eq_getElem hk]
    · have := (h1.stored k (.int .u8 x)).1
      unfold Row
      rw [List.length_set, List.map_set]
      exact this
theorem RowS.frz {w : World} {base g n c : Nat} {l : List (Value × List Int)} (h : RowS w base (.slice (some ⟨g, 0, none⟩) n c) l) (i : Nat) : w.frozen? ⟨g, i, none⟩ = false := by
  have hl := h.1.len
  subst hl
  have h1 : w.ownsRow base 24 1 (.slice (some ⟨g, 0, none⟩) (l.map (·.1)).length c) (l.map (·.1)).length (l.map (·.1)) := h.1
  exact h1.frozenAt i
/-- what was put in at place i, and turned there. -/
theorem turned {w3 w4 : World} {base g g5 n c c5 i k : Nat} {l : List (Value × List Int)} {bs : List Int} (hP : Parts w3 base (.slice (some ⟨g, 0, none⟩) n c) l) (K : Kp [] w3 w4)
    (R : Row w4 w3.heap.size (.slice (some ⟨g5, 0, none⟩) bs.length c5) bs) (hB : Bs bs) (hpos : 0 < bs.length) (x : Int) (h0 : 0 ≤ x) (h1 : x ≤ 255) :
    RowS ((w4.setCell ⟨g, i, none⟩ (.slice (some ⟨g5, 0, none⟩) bs.length c5)).setCell ⟨g5, k, none⟩ (.int .u8 x)) base (.slice (some ⟨g, 0, none⟩) n c) (l.set i (.slice (some ⟨g5, 0, none⟩) bs.length c5, bs.set k x)) := by
  have hg : g < w3.heap.size := hP.1.lt rfl
  have hg5 : w3.heap.size ≤ g5 := R.own g5 rfl
  have hS4 := (hP.kept K).rowS
  have hS5 := hS4.set i (.slice (some ⟨g5, 0, none⟩) bs.length c5, bs) R.sl hB (fun h => by
    have : g5 = g := by simpa [Value.ownBlock] using h
    omega)
  have k5 : Kp [g] w4 (w4.setCell ⟨g, i, none⟩ (.slice (some ⟨g5, 0, none⟩) bs.length c5)) := (Kp.refl [g] w4).setCell (p := ⟨g, i, none⟩) (.inl (by simp)) _
  have R5 := R.kept k5 (fun j hj => by have : g5 = j := by simpa [Value.ownBlock] using hj
                                       simp; omega)
  have k6 : Kp [g5] (w4.setCell ⟨g, i, none⟩ (.slice (some ⟨g5, 0, none⟩) bs.length c5)) ((w4.setCell ⟨g, i, none⟩ (.slice (some ⟨g5, 0, none⟩) bs.length c5)).setCell ⟨g5, k, none⟩ (.int .u8 x)) := (Kp.refl [g5] _).setCell (p := ⟨g5, k, none⟩) (.inl (by simp)) _
  refine ⟨?_, fun y hy => ?_⟩
  · have := hS5.1.kept k6 (fun j hj => by have : g = j := by simpa [Value.ownBlock] using hj
                                          simp; omega)
    rw [List.map_set] at this ⊢
    exact this
  · rcases List.mem_or_eq_of_mem_set hy with hy | rfl
    · obtain ⟨h2, h3, h4⟩ := hP.2 y hy
      refine ⟨((h2.sl.kept K (by simp)).kept k5 (fun j hj hm => h4 j hj (by simp at hm; subst hm; rfl))).kept k6 (fun j hj hm => ?_), h3, fun j hj hv => absurd hv (h4 j hj)⟩
      have := h2.lt hj
      simp at hm
      omega
    · obtain ⟨g', e, _, _, _, _, hst⟩ := R5.spot hpos
      obtain rfl : g5 = g' := by simpa using e
      refine ⟨(hst k x).sl, hB.set k x h0 h1, fun j hj hv => ?_⟩
      have e1 : g5 = j := by simpa [Value.ownBlock] using hj
      have e2 : g = j := by simpa [Value.ownBlock] using hv
      omega
end Go.Proofs.YtdioaohejoflcaaDoor

/-
  Rows of rows of the call's own, gathered while other blocks change; slices and lists of which one byte is turned.
-/
namespace Go.Proofs.YtdioaohejoflcaaDoor
open Go.RowKit
open Go.Proofs

/-- rows that are gathered, all of the call's own, while blocks in S may change. -/
def AccP (S : List Nat) (w : World) (ls : List (List Int)) (v : Value) (wr : World) : Prop := ∃ l, Parts wr w.heap.size v l ∧ l.map (·.2) = ls ∧ Kp S w wr
theorem AccP.kp {S : List Nat} {w wr : World} {ls : List (List Int)} {v : Value} (h : AccP S w ls v wr) : Kp S w wr := by obtain ⟨_, _, _, h3⟩ := h; exact h3
theorem AccP.own {S : List Nat} {w wr : World} {ls : List (List Int)} {v : Value} (h : AccP S w ls v wr) : ∀ q, v.ownBlock = some q → w.heap.size ≤ q ∧ q < wr.heap.size := by obtain ⟨_, h1, _, _⟩ := h; exact fun q hq => ⟨h1.1.own q hq, h1.1.lt hq⟩
theorem Parts.off {w w' : World} {base q : Nat} {v : Value} {l : List (Value × List Int)} (h : Parts w base v l) (k : Kp [q] w w') (hq : q < base) : Parts w' base v l :=
  ⟨h.1.kept k (fun i hi => by have := h.1.own i hi; simp; omega), fun x hx => ⟨(h.2 x hx).1.kept k (fun i hi => by have := (h.2 x hx).1.own i hi; simp; omega), (h.2 x hx).2⟩⟩
theorem AccP.off {S : List Nat} {w wr w2 : World} {ls : List (List Int)} {v : Value} {q : Nat} (h : AccP S w ls v wr) (k : Kp [q] wr w2) (hq : q ∈ S) (hlt : q < w.heap.size) : AccP S w ls v w2 := by
  obtain ⟨l, h1, h2, h3⟩ := h
  exact ⟨l, h1.off k hlt, h2, h3.trans (k.mono (by simpa using hq))⟩
theorem AccP.mid {S : List Nat} {w wr w2 : World} {ls : List (List Int)} {v : Value} (h : AccP S w ls v wr) (k : Kp [] wr w2) : AccP S w ls v w2 := by
  obtain ⟨l, h1, h2, h3⟩ := h
  exact ⟨l, h1.kept k, h2, h3.trans (k.mono (by simp))⟩
theorem AccP.len {S : List Nat} {w wr : World} {ls : List (List Int)} {ao : Option Addr} {m c : Nat} (h : AccP S w ls (.slice ao m c) wr) : m = ls.length := by
  obtain ⟨l, h1, h2, _⟩ := h
  have := h1.1.len
  rw [this, ← h2]; simp
/-- one more row behind them, at a step of a region that draws its order. -/
theorem step_accp {S : List Nat} {w wr w2 w3 : World} {ops : Array Oper} {o : Oper} {a : Act} {K : Act → World → Prop} {Q : Exit → Act → World → Prop} {E : Prop} (hgd : o.guard = none) (s x : Operand)
    (ho : o.op = .call { callee := .builtin .append, args := #[s, x], argTypes := #[31, 31] }) (v : Value) (ls : List (List Int)) (hs : a.eval s = v) (hA : AccP S w ls v wr) (hl : ls.length ≤ 1000000)
    (vx : Value) (bs : List Int) (k : Kp [] wr w2) (hR : Row w2 wr.heap.size vx bs) (hB : Bs bs) (g : Nat) (hx : a.eval x = .slice (some ⟨g, 0, none⟩) 1 1) (hc : w3.cell? ⟨g, 0, none⟩ = some vx) (k3 : Kp [] w2 w3)
    (h : ∀ ao m c w', AccP S w (ls ++ [bs]) (.slice ao m c) w' → RStep wr v w' (.slice ao m c) → K (a.put o.dst (.slice ao m c)) w') :
    if Region.wanted o (yielded ops a.tmps) = true then Oper.wp Tryd.prog o a w3 K Q else E := by
  have hw : Region.wanted o (yielded ops a.tmps) = true := by simp [Region.wanted, hgd]
  rw [if_pos hw]
  obtain ⟨i0, hi0, hz0, hz1, hz2⟩ := info_parts Tryd.infoSl
  obtain ⟨l, hP, hl2, hK⟩ := hA
  have hP2 := hP.kept (k.trans k3)
  obtain ⟨ax, cx, hvx⟩ := hR.shape
  obtain ⟨av, cv, hv⟩ := hP2.1.shape
  have hll : l.length = ls.length := by rw [← hl2]; simp
  have hbase : w.heap.size ≤ w3.heap.size := Nat.le_trans hK.size (k.trans k3).size
  obtain ⟨ys, hys⟩ : ∃ ys, ys = l.map (·.1) := ⟨_, rfl⟩
  have hP2r : RowV w3 w.heap.size v ys := by rw [hys]; exact hP2.1
  have hyl : ys.length ≤ 1000000 := by rw [hys, List.length_map]; omega
  obtain ⟨v', w1, hr, hown1, hgrow, _, hat⟩ := run_append_own_at (P := Tryd.prog) w3 w.heap.size 31 o.type 24 i0 (.slice none 0 0) 1 24 Tryd.underlying31 hi0 hz0 hz1 hz2 rfl (by decide) v ys.length ys hP2r ⟨g, 0, none⟩ 1 1 [vx] (by simp) (fun j u hu => by
    have hj : j = 0 := by have := (List.getElem?_eq_some_iff.1 hu).1; simpa using this
    subst hj
    simp at hu
    subst hu
    exact hc) (by simp [hvx, Value.oneCell']) (by unfold maxLen; omega) (by omega) hbase
  have R : RowV w1 w.heap.size v' (ys ++ [vx]) := by unfold RowV; rw [List.length_append]; exact hown1
  rw [hys] at R
  obtain ⟨ao', c', hv'⟩ := R.shape
  subst hv'
  have st : RStep w3 v w1 (.slice ao' (l.map (·.1) ++ [vx]).length c') := ⟨(Kp.refl _ w3).grown hgrow (fun k hk => .inl (by simp [hk])), fun k hk => by
    rcases hat with e | e
    · exact .inl (e ▸ hk)
    · rw [e] at hk; cases hk; exact .inr (Nat.le_refl _)⟩
  have hKK := h ao' _ c' w1 ⟨l ++ [(vx, bs)], hP.snoc (x := (vx, bs)) k hR hB k3 R st hK.size, by simp [hl2], (hK.trans ((k.trans k3).mono (by simp))).then st.1 (fun i hi => .inr (hP.1.own i (by simpa using hi)))⟩ (st.after (k.trans k3))
  unfold Oper.wp execOp
  simp only [ho, resolve, invoke, builtin, Sem.run_bind, Sem.run_pure, Result.andThen_ok, List.map_toArray, List.map_cons, List.map_nil, hs, hx, hr]
  exact hKK

/-- a list of slices that lies apart from the block g. -/
def Lz (g : Nat) (w : World) (v : Value) (ls : List (List Int)) : Prop :=
  ∃ l, Lists w v l ∧ l.map (·.2) = ls ∧ (∀ q, v.ownBlock = some q → q ≠ g) ∧ ∀ x ∈ l, ∀ q, x.1.ownBlock = some q → q ≠ g
theorem Lz.kept {g : Nat} {w w' : World} {v : Value} {ls : List (List Int)} (h : Lz g w v ls) (k : Kp [] w w') : Lz g w' v ls := by
  obtain ⟨l, h1, h2⟩ := h
  exact ⟨l, h1.kept k, h2⟩
theorem Lz.off {g : Nat} {w w' : World} {v : Value} {ls : List (List Int)} (h : Lz g w v ls) (k : Kp [g] w w') : Lz g w' v ls := by
  obtain ⟨l, h1, h2, h3, h4⟩ := h
  exact ⟨l, h1.off k (fun q hq => by simpa using h3 q hq) (fun y hy q hq => by simpa using h4 y hy q hq), h2, h3, h4⟩
theorem AccP.lz {S : List Nat} {w wr : World} {ls : List (List Int)} {v : Value} (h : AccP S w ls v wr) (hl : ls.length ≤ 1000) (g : Nat) (hg : g < w.heap.size) : Lz g wr v ls := by
  obtain ⟨l, h1, h2, h3⟩ := h
  refine ⟨l, h1.lists (by rw [← List.length_map (f := (·.2)), h2]; exact hl), h2, fun q hq => ?_, fun x hx q hq => ?_⟩
  · have := h1.1.own q hq; omega
  · have := (h1.2 x hx).1.own q hq; omega
theorem cell_setCell_ne {w : World} {a b : Addr} {u : Value} (hs : a.spot = none) (h : b ≠ a) (hb : b.spot = none) : (w.setCell a u).cell? b = w.cell? b := by
  obtain ⟨ab, ao, as'⟩ := a
  obtain ⟨bb, bo, bs'⟩ := b
  simp only at hs hb
  subst hs
  subst hb
  by_cases hblk : bb = ab
  · subst hblk
    have hoff : ao ≠ bo := fun e => h (by rw [e])
    unfold World.cell? World.setCell
    simp only
    cases hx : w.heap[bb]? with
    | none =>
      have hle := Array.getElem?_eq_none_iff.1 hx
      rw [Array.getElem?_eq_none (by simpa using hle)]
    | some o =>
      have hlt : bb < w.heap.size := (Array.getElem?_eq_some_iff.1 hx).1
      have hx' : w.heap[bb] = o := by simpa [Array.getElem?_eq_getElem hlt] using hx
      rw [Array.getElem?_eq_getElem (by simpa using hlt), Array.getElem_modify_self, hx']
      cases o <;> simp [Array.getElem?_setIfInBounds_ne hoff]
  · exact World.cell?_of_block (Below.heap_setCell _ _ _ _ (by simpa using hblk))
theorem cell_setCell_same {w : World} {b off : Nat} {u y : Value} (h : w.cell? ⟨b, off, none⟩ = some y) : (w.setCell ⟨b, off, none⟩ u).cell? ⟨b, off, none⟩ = some u := by
  unfold World.cell? World.setCell at *
  simp only at *
  cases hx : w.heap[b]? with
  | none => simp [hx] at h
  | some o =>
    have hlt : b < w.heap.size := (Array.getElem?_eq_some_iff.1 hx).1
    have hx' : w.heap[b] = o := by simpa [Array.getElem?_eq_getElem hlt] using hx
    rw [hx] at h
    rw [Array.getElem?_eq_getElem (by simpa using hlt), Array.getElem_modify_self, hx']
    cases o with
    | cells c t fr =>
      simp at h ⊢
      have : off < c.size := (Array.getElem?_eq_some_iff.1 h).1
      simp [this]
    | _ => simp at h
theorem spot_of_cell {w : World} {a : Addr} {v : Value} (h : w.cell? a = some v) : a.spot = none := by
  unfold World.cell? at h
  cases hx : w.heap[a.block]? with
  | none => rw [hx] at h; cases h
  | some o =>
    rw [hx] at h
    cases o with
    | cells c t fr =>
      simp only at h
      cases hs : a.spot with
      | none => rfl
      | some x => rw [hs] at h; simp at h
    | _ => simp at h
/-- one byte is turned: whatever reads as bytes still does. -/
theorem Sl.poke {w : World} {v : Value} {bs : List Int} {b off : Nat} {y : Value} (h : Sl w v bs) (hB : Bs bs) (x : Int) (h0 : 0 ≤ x) (h1 : x ≤ 255) (hc : w.cell? ⟨b, off, none⟩ = some y) : ∃ cs, Sl (w.setCell ⟨b, off, none⟩ (.int .u8 x)) v cs ∧ Bs cs := by
  obtain ⟨ao, c, rfl, k1, k2, k3, k4⟩ := h
  cases ao with
  | none =>
    have : bs = [] := List.eq_nil_of_length_eq_zero (by have := k3 rfl; omega)
    subst this
    exact ⟨[], ⟨none, c, rfl, k1, k2, k3, fun a ha => by cases ha⟩, hB⟩
  | some a =>
    refine ⟨(List.range bs.length).map fun j => if a.add j = ⟨b, off, none⟩ then x else bs.getD j 0, ⟨some a, c, by simp, by simpa using k1, k2, (fun h => by cases h), fun a' ha j u hu => ?_⟩, fun z hz => ?_⟩
    · cases ha
      have hj : j < bs.length := by have := (List.getElem?_eq_some_iff.1 hu).1; simpa using this
      have hold := k4 a rfl j (.int .u8 bs[j]) (by simp [List.getElem?_eq_getElem hj])
      have hg : bs.getD j 0 = bs[j] := by simp [List.getD, hj]
      simp only [List.map_map, List.getElem?_map, List.getElem?_range hj, Option.map_some, Option.some.injEq, Function.comp] at hu
      rw [← hu]
      by_cases he : a.add j = ⟨b, off, none⟩
      · rw [if_pos he, he]
        exact cell_setCell_same hc
      · rw [if_neg he, hg, cell_setCell_ne rfl he (spot_of_cell hold)]
        exact hold
    · obtain ⟨j, hj, rfl⟩ := List.mem_map.1 hz
      split
      · exact ⟨h0, h1⟩
      · exact hB.at j
theorem Lz.poke {g : Nat} {w : World} {v : Value} {ls : List (List Int)} {b off : Nat} {y : Int} (h : Lz g w v ls) (x : Int) (h0 : 0 ≤ x) (h1 : x ≤ 255) (hc : w.cell? ⟨b, off, none⟩ = some (.int .u8 y)) : ∃ ls', Lz g (w.setCell ⟨b, off, none⟩ (.int .u8 x)) v ls' := by
  obtain ⟨l, ⟨ao, c, e, k1, k2⟩, _, h3, h4⟩ := h
  subst e
  have hex : ∀ i (hi : i < l.length), ∃ cs, Sl (w.setCell ⟨b, off, none⟩ (.int .u8 x)) l[i].1 cs ∧ Bs cs := fun i hi => by
    obtain ⟨_, _, _, _, k5, k6⟩ := k2 i hi
    exact k5.poke k6 x h0 h1 hc
  have hf : ∃ f : Nat → List Int, ∀ i (hi : i < l.length), Sl (w.setCell ⟨b, off, none⟩ (.int .u8 x)) l[i].1 (f i) ∧ Bs (f i) := by
    refine ⟨fun i => if hi : i < l.length then (hex i hi).choose else [], fun i hi => ?_⟩
    simp only [hi, dif_pos]
    exact (hex i hi).choose_spec
  obtain ⟨f, hf⟩ := hf
  refine ⟨_, l.mapIdx (fun i y => (y.1, f i)), ⟨ao, c, by simp, by simpa using k1, fun i hi => ?_⟩, rfl, h3, fun y hy q hq => ?_⟩
  · have hi2 : i < l.length := by simpa using hi
    obtain ⟨b', off', e', k4, k5, k6⟩ := k2 i hi2
    have hv : l[i].1 ≠ .int .u8 y := fun e => by obtain ⟨_, _, e2, _⟩ := k5; rw [e] at e2; cases e2
    refine ⟨b', off', e', ?_, by simpa using (hf i hi2).1, by simpa using (hf i hi2).2⟩
    simp only [List.getElem_mapIdx]
    rw [cell_setCell_ne rfl (fun e2 => hv (by rw [e2, hc] at k4; exact (Option.some.inj k4).symm)) rfl]
    exact k4
  · obtain ⟨i, hi, rfl⟩ := List.getElem_of_mem hy
    have hi2 : i < l.length := by simpa using hi
    simp only [List.getElem_mapIdx] at hq
    exact h4 l[i] (List.getElem_mem hi2) q hq
/-- the first byte of the part i, where a byte may be put in. -/
theorem AccP.at {S : List Nat} {w wr : World} {ls : List (List Int)} {ao : Option Addr} {m c : Nat} (h : AccP S w ls (.slice ao m c) wr) (i : Nat) (hi : i < ls.length) (hne : 0 < (ls.getD i []).length) : ∃ gr b cx, ao = some ⟨gr, 0, none⟩ ∧ w.heap.size ≤ b ∧ wr.cell? ⟨gr, i, none⟩ = some (.slice (some ⟨b, 0, none⟩) (ls.getD i []).length cx) ∧ wr.cell? ⟨b, 0, none⟩ = some (.int .u8 ((ls.getD i []).getD 0 0)) ∧ wr.frozen? ⟨b, 0, none⟩ = false ∧ Row wr w.heap.size (.slice (some ⟨b, 0, none⟩) (ls.getD i []).length cx) (ls.getD i []) ∧ Bs (ls.getD i []) ∧ (∀ j, wr.frozen? ⟨gr, j, none⟩ = false) ∧ b ≠ gr := by
  obtain ⟨l, h1, h2, _⟩ := h
  subst h2
  have hi2 : i < l.length := by simpa using hi
  have hg : (l.map (·.2)).getD i [] = l[i].2 := by simp [List.getD, hi2]
  rw [hg] at hne ⊢
  obtain ⟨gr, e, hb, hlt, hn, hcs, hfr⟩ := h1.rowS.spot (by have := h1.1.len; rw [this]; simp; omega)
  subst e
  obtain ⟨k1, k2, k3⟩ := h1.2 l[i] (List.getElem_mem hi2)
  have hrow : wr.cell? ⟨gr, i, none⟩ = some l[i].1 := by
    have hm := h1.1.len
    subst hm
    have hr : wr.ownsRow w.heap.size 24 1 (.slice (some ⟨gr, 0, none⟩) (l.map (·.1)).length c) (l.map (·.1)).length (l.map (·.1)) := h1.1
    rw [hr.cellAt i (by simp; omega)]
    simp [hi2]
  obtain ⟨ax, cx, ev⟩ := k1.shape
  rw [ev] at k1 hrow k3
  obtain ⟨b, e2, hb2, _, hc2, hf2, _⟩ := k1.spot hne
  subst e2
  refine ⟨gr, b, cx, rfl, hb2, hrow, ?_, hf2 0, k1, k2, hfr, fun e => k3 b rfl (by rw [e]; rfl)⟩
  rw [hc2 0 hne]
  simp [List.getD, hne]
theorem AccP.lzoff {S : List Nat} {w wr w2 : World} {ls : List (List Int)} {v : Value} {q : Nat} (h : AccP S w ls v wr) (k : Kp [q] wr w2) (hlt : q < w.heap.size) (hl : ls.length ≤ 1000) (g : Nat) (hg : g < w.heap.size) : Lz g w2 v ls := by
  obtain ⟨l, h1, h2, h3⟩ := h
  have h1' := h1.off k hlt
  refine ⟨l, h1'.lists (by rw [← List.length_map (f := (·.2)), h2]; exact hl), h2, fun q hq => ?_, fun x hx q hq => ?_⟩
  · have := h1.1.own q hq; omega
  · have := (h1.2 x hx).1.own q hq; omega
theorem AccP.cap {S : List Nat} {w wr : World} {ls : List (List Int)} {ao : Option Addr} {m c : Nat} (h : AccP S w ls (.slice ao m c) wr) : m ≤ c := by
  obtain ⟨l, h1, _, _⟩ := h
  have hm := h1.1.len
  rcases h1.1.2 with ⟨e, h0⟩ | ⟨g, cap, cur, e, _, _, hc, _⟩
  · injection e with _ e2 e3; omega
  · injection e with _ e2 e3; omega
theorem Lz.take {g : Nat} {w : World} {ao : Option Addr} {n c : Nat} {ls : List (List Int)} (h : Lz g w (.slice ao n c) ls) {k : Nat} (hk : k ≤ ls.length) : Lz g w (.slice ao k c) (ls.take k) := by
  obtain ⟨l, h1, h2, h3, h4⟩ := h
  exact ⟨l.take k, h1.take (by rw [← List.length_map (f := (·.2)), h2]; exact hk), by rw [List.map_take, h2], (by cases ao <;> exact h3), fun x hx => h4 x (List.mem_of_mem_take hx)⟩
theorem run_cut (ao : Option Addr) (n c k : Nat) (w : World) (h1 : k ≤ n) (h2 : n ≤ c) (h3 : ao = none → c = 0) : (Instr.sliceAt 31 (.slice ao n c) none (some (.int .i64 k)) none).run Tryd.prog w = .ok (.slice ao k c) w := by
  have e3 : (k : Int) ≤ (c : Int) := by omega
  cases ao with
  | none =>
    have := h3 rfl
    have hk : k = 0 := by omega
    subst hk
    simp [Instr.sliceAt, Sem.run_bind, go_sem]
  | some a =>
    simp [Instr.sliceAt, Sem.run_bind, go_sem, e3]
theorem run_cut1 (ao : Option Addr) (n c k : Nat) (w : World) (h1 : k ≤ n) (h2 : n ≤ c) (h3 : ao = none → c = 0) : (Instr.sliceAt 24 (.slice ao n c) none (some (.int .i64 k)) none).run Tryd.prog w = .ok (.slice ao k c) w := by
  have e3 : (k : Int) ≤ (c : Int) := by omega
  cases ao with
  | none =>
    have := h3 rfl
    have hk : k = 0 := by omega
    subst hk
    simp [Instr.sliceAt, Sem.run_bind, go_sem]
  | some a =>
    simp [Instr.sliceAt, Sem.run_bind, go_sem, e3]
/-- the part i is cut to its first bytes. -/
theorem AccP.half {S : List Nat} {w wr w2 : World} {ls : List (List Int)} {gr m c b cx : Nat} (h : AccP S w ls (.slice (some ⟨gr, 0, none⟩) m c) wr) (i : Nat) (k : Kp [] wr w2) (hR : Row wr w.heap.size (.slice (some ⟨b, 0, none⟩) 32 cx) (ls.getD i [])) (hB : Bs (ls.getD i [])) (hne : b ≠ gr) (hl : ls.length ≤ 1000) (g : Nat) (hg : g < w.heap.size) :
    Lz g (w2.setCell ⟨gr, i, none⟩ (.slice (some ⟨b, 0, none⟩) 16 cx)) (.slice (some ⟨gr, 0, none⟩) m c) (ls.set i ((ls.getD i []).take 16)) := by
  obtain ⟨l, h1, h2, h3⟩ := h
  have hlen : (ls.getD i []).length = 32 := hR.len.symm
  have hS := ((hR.sl.kept k (by simp)).take 16 (by omega))
  have hRS := ((h1.kept k).rowS).set i (.slice (some ⟨b, 0, none⟩) 16 cx, (ls.getD i []).take 16) hS (hB.take _) (fun e => absurd (by simpa [Value.ownBlock] using e) hne)
  refine ⟨_, hRS.lists (by rw [List.length_set, ← List.length_map (f := (·.2)), h2]; exact hl), by rw [List.map_set, h2], fun q hq => ?_, fun x hx q hq => ?_⟩
  · have := h1.1.own q hq; omega
  · rcases List.mem_or_eq_of_mem_set hx with hx | rfl
    · have := (h1.2 x hx).1.own q hq; omega
    · have := hR.own q hq; omega
/-- The value is a number below n. -/
def InT (n : Nat) : Tell := fun v _ => ∃ x : Nat, v = .int .i64 x ∧ x < n
theorem stable_in (n : Nat) : Tell.stable (InT n) := fun _ _ _ _ h => h
end Go.Proofs.YtdioaohejoflcaaDoor
