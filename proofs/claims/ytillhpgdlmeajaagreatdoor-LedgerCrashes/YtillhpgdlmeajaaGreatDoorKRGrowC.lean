/-
  Regions that draw their order, whose operations only make memory, and mark what they made: of each operation a predicate tells what it yields, and stays true as long as cells stay; one look at each operation serves every order.
-/
import Derived.Test.YtillhpgdlmeajaaGreatDoorKOKeeps
namespace Go.Proofs.YtillhpgdlmeajaaGreatDoor
open Go.RowKit

/-- w' has all cells that w has. -/
structure Kc (w w' : World) : Prop where
  size : w.heap.size ≤ w'.heap.size
  cell : ∀ a v, w.cell? a = some v → w'.cell? a = some v
theorem Kc.refl (w : World) : Kc w w := ⟨Nat.le_refl _, fun _ _ h => h⟩
theorem Kp.kc {w w' : World} (h : Kp [] w w') : Kc w w' := ⟨h.size, fun _ _ hc => h.cell hc (by simp)⟩
def Tell.stableC (R : Tell) : Prop := ∀ v w w', Kc w w' → R v w → R v w'
theorem Sl.kc {w w' : World} {v : Value} {bs : List Int} (h : Sl w v bs) (k : Kc w w') : Sl w' v bs := by
  obtain ⟨ao, c, rfl, h1, h2, h3, h4⟩ := h
  exact ⟨ao, c, rfl, h1, h2, h3, fun a ha j u hu => k.cell _ _ (h4 a ha j u hu)⟩
theorem Lists.kc {w w' : World} {v : Value} {l : List (Value × List Int)} (h : Lists w v l) (k : Kc w w') : Lists w' v l := by
  obtain ⟨ao, c, rfl, h1, h2⟩ := h
  refine ⟨ao, c, rfl, h1, fun i hi => ?_⟩
  obtain ⟨b, off, e, h3, h4, h5⟩ := h2 i hi
  exact ⟨b, off, e, k.cell _ _ h3, h4.kc k, h5⟩
theorem stableC_is (c : Value) : Tell.stableC (Is c) := fun _ _ _ _ h => h
theorem stableC_sl (bs : List Int) : Tell.stableC (SlT bs) := fun _ _ _ k h => h.kc k
theorem stableC_lsm (ls : List (List Int)) : Tell.stableC (LsM ls) := fun _ _ _ k ⟨l, h, e⟩ => ⟨l, h.kc k, e⟩

def grownC (P : Program) (w0 w : World) (R : Tell) : Result Next → Prop
  | .ok (.value v) w' => (Kc w w' ∧ Kp [] w0 w') ∧ R v w'
  | .ok .skip w' => (Kc w w' ∧ Kp [] w0 w') ∧ R undef w'
  | .ok (.enter f args) w' => Calls P f args w' fun e w'' => ∃ v, e = .returned v ∧ (Kc w w'' ∧ Kp [] w0 w'') ∧ R v w''
  | _ => False

/-- What one operation must do. -/
def wantsC (P : Program) (ops : Array Oper) (o : Oper) (a : Act) (w0 w : World) (R : Tell) : Prop :=
  if Region.wanted o (yielded ops a.tmps) then grownC P w0 w R ((execOp a.eval o).run P w) else R undef w

def StepsC (P : Program) (ops : Array Oper) (a0 : Act) (w0 : World) (Rs : List Tell) : List Oper → List (List (Tmp × Option Nat)) → List Tell → Prop
  | o :: l, ks :: kss, R :: rs => (∀ a w, Kp [] w0 w → Knows a0 Rs a w ks → wantsC P ops o a w0 w R) ∧ StepsC P ops a0 w0 Rs l kss rs
  | [], [], [] => True
  | _, _, _ => False

section
variable {P : Program} {l : List Oper} {Q : Exit → Act → World → Prop} {a0 : Act} {w0 : World} {Rs : List Tell} {kss : List (List (Tmp × Option Nat))} {n i : Nat} {listed : Array Bool} {a : Act} {w w' : World} {o : Oper} {R : Tell} {v : Value}

theorem StepsC.at (ops : Array Oper) : ∀ {l : List Oper} {kss : List (List (Tmp × Option Nat))} {rs : List Tell}, StepsC P ops a0 w0 Rs l kss rs → l.length = rs.length ∧ l.length = kss.length ∧ ∀ (i : Nat) o ks R, l[i]? = some o → kss[i]? = some ks → rs[i]? = some R → ∀ a w, Kp [] w0 w → Knows a0 Rs a w ks → wantsC P ops o a w0 w R
  | [], [], [], _ => ⟨rfl, rfl, fun i o ks R h => by simp at h⟩
  | o :: l, ks :: kss, R :: rs, h => by
    obtain ⟨h1, h2, h3⟩ := StepsC.at ops h.2
    refine ⟨by simp [h1], by simp [h2], fun i o' ks' R' ho hk hR => ?_⟩
    cases i with
    | zero =>
      simp at ho hk hR
      subst ho; subst hk; subst hR
      exact h.1
    | succ i => exact h3 i o' ks' R' (by simpa using ho) (by simpa using hk) (by simpa using hR)
  | [], [], _ :: _, h => h.elim
  | [], _ :: _, [], h => h.elim
  | [], _ :: _, _ :: _, h => h.elim
  | _ :: _, [], [], h => h.elim
  | _ :: _, [], _ :: _, h => h.elim
  | _ :: _, _ :: _, [], h => h.elim

structure InvC (l : List Oper) (Rs : List Tell) (a0 : Act) (w0 : World) (listed : Array Bool) (a : Act) (w : World) : Prop where
  kp : Kp [] w0 w
  size : a.tmps.size = a0.tmps.size
  defers : a.defers = a0.defers
  ls : listed.size = l.length
  told : ∀ i d R, listed.getD i false = true → dstAt l i = some d → Rs[i]? = some R → R (a.eval (.tmp d)) w
  rest : ∀ t, (∀ i, listed.getD i false = true → dstAt l i ≠ some t) → a.eval (.tmp t) = a0.eval (.tmp t)
  closed : ∀ i o, l[i]? = some o → listed.getD i false = true → ∀ j ∈ odeps o, listed.getD j false = true

theorem knows_ofC (hinv : InvC l Rs a0 w0 listed a w) (hr : i ∈ Region.ready .any l.toArray listed) (ho : l[i]? = some o) (hlen : l.length = Rs.length) : ∀ ks : List (Tmp × Option Nat), (∀ k ∈ ks, lookOk l i o k = true) → Knows a0 Rs a w ks
  | [], _ => trivial
  | (t, some j) :: ks, h => by
    refine ⟨?_, knows_ofC hinv hr ho hlen ks (fun k hk => h k (by simp [hk]))⟩
    have h1 := h (t, some j) (by simp)
    simp only [lookOk, Bool.and_eq_true, List.contains_iff_mem, beq_iff_eq] at h1
    obtain ⟨hd, hdst⟩ := h1
    obtain ⟨e, he, hb, rfl⟩ := mem_deps.1 hd
    obtain ⟨_, o', ho', hall⟩ := mem_ready.1 hr
    have : o' = o := by have := ho'; rw [List.getElem?_toArray, ho] at this; exact (Option.some.inj this).symm
    subst this
    have hl := hall e he hb
    have hlt : e.on < Rs.length := by
      unfold dstAt at hdst
      cases hx : l[e.on]? with
      | none => simp [hx] at hdst
      | some _ => rw [← hlen]; exact (List.getElem?_eq_some_iff.1 hx).1
    rw [List.getD_eq_getElem?_getD, List.getElem?_eq_getElem hlt, Option.getD_some]
    exact hinv.told e.on t _ hl hdst (List.getElem?_eq_getElem hlt)
  | (t, none) :: ks, h => by
    refine ⟨?_, knows_ofC hinv hr ho hlen ks (fun k hk => h k (by simp [hk]))⟩
    have h1 := h (t, none) (by simp)
    simp only [lookOk, List.all_eq_true, List.mem_range, Bool.or_eq_true, beq_iff_eq, bne_iff_ne, ne_eq] at h1
    refine hinv.rest t (fun k hk hkd => ?_)
    have hnot : listed.getD i false = false := by
      have h0 := (mem_ready.1 hr).1
      rcases Nat.lt_or_ge i listed.size with h' | h'
      · simp [h'] at h0 ⊢; exact h0
      · simp [Array.getElem?_eq_none h']
    have hlt : k < l.length := by
      unfold dstAt at hkd
      cases hx : l[k]? with
      | none => simp [hx] at hkd
      | some _ => exact (List.getElem?_eq_some_iff.1 hx).1
    rcases h1 k hlt with (h2 | h2) | h2
    · subst h2; rw [hk] at hnot; cases hnot
    · exact h2 hkd
    · rw [List.getElem?_eq_getElem hlt] at h2
      simp only [Option.map_some, Option.getD_some, List.contains_iff_mem] at h2
      have := hinv.closed k _ (List.getElem?_eq_getElem hlt) hk i h2
      rw [this] at hnot; cases hnot

theorem fin_ofC (hok : regionOk l kss a0.tmps.size = true) (hlen : l.length = Rs.length) (hinv : InvC l Rs a0 w0 listed a w) (hall : ∀ i, i < l.length → listed.getD i false = true) :
    ∀ (m : List Oper) (rs : List Tell) (k : Nat) (b : Act), (∀ j, m[j]? = l[k + j]?) → (∀ j, rs[j]? = Rs[k + j]?) → b.tmps.size = a0.tmps.size → b.defers = a0.defers →
    (∀ t, (∀ j d, dstAt l (k + j) = some d → d ≠ t) → b.eval (.tmp t) = a.eval (.tmp t)) → FinR Q m rs b w → Q .normal a w
  | [], rs, k, b, hm, hrs, hbs, hbd, heq, h => by
    have hb : b = a := by
      cases b with
      | mk bt bd =>
        cases a with
        | mk at_ ad =>
          have e1 : bt.size = at_.size := hbs.trans hinv.size.symm
          have e2 : bd = ad := hbd.trans hinv.defers.symm
          subst e2
          congr 1
          refine Array.ext e1 (fun i h1 h2 => ?_)
          have := heq i (fun j d hd => by
            unfold dstAt at hd
            rw [← hm j] at hd
            simp at hd)
          simpa [Act.eval, h1, h2] using this
    subst hb
    cases rs <;> exact h
  | o :: m, [], k, b, hm, hrs, _, _, _, _ => by
    have h1 := hm 0
    have h2 := hrs 0
    simp only [List.getElem?_cons_zero, Nat.add_zero, List.getElem?_nil] at h1 h2
    have h3 : k < l.length := (List.getElem?_eq_some_iff.1 h1.symm).1
    have h4 := List.getElem?_eq_none_iff.1 h2.symm
    omega
  | o :: m, R :: rs, k, b, hm, hrs, hbs, hbd, heq, h => by
    have h1 : l[k]? = some o := by simpa using (hm 0).symm
    have h2 : Rs[k]? = some R := by simpa using (hrs 0).symm
    have h3 : k < l.length := (List.getElem?_eq_some_iff.1 h1).1
    obtain ⟨ks, d, _, hd, hdn, _, _, _⟩ := regionOk_at hok h1
    have hdk : dstAt l k = some d := by unfold dstAt; simp [h1, hd]
    have hR := hinv.told k d R (hall k h3) hdk h2
    refine fin_ofC hok hlen hinv hall m rs (k + 1) (b.put o.dst (a.eval (.tmp d))) (fun j => ?_) (fun j => ?_) ?_ ?_ ?_ (h _ hR)
    · have := hm (j + 1); simpa [Nat.add_assoc, Nat.add_comm 1 j] using this
    · have := hrs (j + 1); simpa [Nat.add_assoc, Nat.add_comm 1 j] using this
    · rw [hd]; simpa [Act.put] using hbs
    · rw [hd]; simpa [Act.put] using hbd
    · intro t ht
      rw [hd]
      by_cases htd : d = t
      · subst htd
        exact eval_put_same (by rw [hbs]; exact hdn)
      · rw [eval_put_ne htd]
        refine heq t (fun j d' hj => ?_)
        cases j with
        | zero => rw [Nat.add_zero, hdk] at hj; cases hj; exact htd
        | succ j => exact ht j d' (by rw [← hj]; congr 1; omega)

theorem inv_stepC (hok : regionOk l kss a0.tmps.size = true) (hst : ∀ R ∈ Rs, Tell.stableC R) (hinv : InvC l Rs a0 w0 listed a w) (hr : i ∈ Region.ready .any l.toArray listed) (ho : l[i]? = some o) (hR : Rs[i]? = some R)
    (hk : Kc w w' ∧ Kp [] w0 w') (hv : R v w') : InvC l Rs a0 w0 (listed.setIfInBounds i true) (a.put o.dst v) w' := by
  obtain ⟨ks, d, _, hd, hdn, _, _, _⟩ := regionOk_at hok ho
  have hdi : dstAt l i = some d := by unfold dstAt; simp [ho, hd]
  have hget : ∀ j, (listed.setIfInBounds i true).getD j false = true → j = i ∨ listed.getD j false = true := fun j hj => by
    by_cases hij : i = j
    · exact .inl hij.symm
    · rw [getD_set_ne false hij] at hj; exact .inr hj
  rw [hd]
  refine ⟨hk.2, ?_, ?_, ?_, ?_, ?_, ?_⟩
  · simpa [Act.put] using hinv.size
  · simpa [Act.put] using hinv.defers
  · simpa using hinv.ls
  · intro j dj Rj hj hdj hRj
    by_cases hji : j = i
    · subst hji
      rw [hdi] at hdj; cases hdj
      rw [hR] at hRj; cases hRj
      rw [eval_put_same (by rw [hinv.size]; exact hdn)]
      exact hv
    · have hl := (hget j hj).resolve_left hji
      have hne : d ≠ dj := fun e => hji (dst_inj hok (e ▸ hdj) hdi)
      rw [eval_put_ne hne]
      exact hst Rj (List.mem_of_getElem? hRj) _ _ _ hk.1 (hinv.told j dj Rj hl hdj hRj)
  · intro t ht
    have hlt : i < listed.size := by rw [hinv.ls]; exact (List.getElem?_eq_some_iff.1 ho).1
    have hne : d ≠ t := fun e => ht i (by simp [hlt]) (e ▸ hdi)
    rw [eval_put_ne hne]
    refine hinv.rest t (fun j hj => ht j ?_)
    exact getD_set_true hj
  · intro j oj hoj hj k hk'
    rcases hget j hj with h1 | h1
    · subst h1
      rw [ho] at hoj; cases hoj
      obtain ⟨e, he, hb, rfl⟩ := mem_deps.1 hk'
      obtain ⟨_, o', ho', hall⟩ := mem_ready.1 hr
      have : o' = o := by have := ho'; rw [List.getElem?_toArray, ho] at this; exact (Option.some.inj this).symm
      subst this
      exact getD_set_true (hall e he hb)
    · exact getD_set_true (hinv.closed j oj hoj h1 k hk')

theorem all_listedC (hok : regionOk l kss n = true) (hinv : InvC l Rs a0 w0 listed a w) (hr : Region.ready .any l.toArray listed = []) : ∀ i, i < l.length → listed.getD i false = true := by
  intro i
  induction i using Nat.strongRecOn with
  | _ i ih =>
    intro hi
    cases hc : listed.getD i false with
    | true => rfl
    | false =>
      have ho : l[i]? = some l[i] := List.getElem?_eq_getElem hi
      obtain ⟨_, _, _, _, _, hdeps, _, _⟩ := regionOk_at hok ho
      have : i ∈ Region.ready .any l.toArray listed := by
        rw [mem_ready]
        refine ⟨?_, l[i], by rw [List.getElem?_toArray]; exact ho, fun e he hb => ?_⟩
        · have hls : i < listed.size := by rw [hinv.ls]; exact hi
          simp [hls] at hc ⊢; exact hc
        · have hm : e.on ∈ odeps l[i] := mem_deps.2 ⟨e, he, hb, rfl⟩
          exact ih e.on (hdeps _ hm) (Nat.lt_trans (hdeps _ hm) hi)
      rw [hr] at this
      cases this

theorem wpAny_growC (hok : regionOk l kss a0.tmps.size = true) (hst : ∀ R ∈ Rs, Tell.stableC R) (hs : StepsC P l.toArray a0 w0 Rs l kss Rs) (hf : ∀ w', Kp [] w0 w' → FinR Q l Rs a0 w') :
    ∀ (fuel : Nat) (listed : Array Bool) (a : Act) (w : World), InvC l Rs a0 w0 listed a w → listed.toList.count false = fuel → wpAny P .any l.toArray Q fuel listed a w := by
  obtain ⟨hlen, _, hat⟩ := StepsC.at _ hs
  have hend : ∀ (listed : Array Bool) (a : Act) (w : World), InvC l Rs a0 w0 listed a w → Region.ready .any l.toArray listed = [] → Q .normal a w := fun listed a w hinv hr =>
    fin_ofC hok hlen hinv (all_listedC hok hinv hr) l Rs 0 a0 (by simp) (by simp) rfl rfl (fun t ht => (hinv.rest t (fun i _ hd => ht i t (by rw [Nat.zero_add]; exact hd) rfl)).symm) (hf w hinv.kp)
  intro fuel
  induction fuel with
  | zero =>
    intro listed a w hinv hc
    have hr : Region.ready .any l.toArray listed = [] := by
      refine List.eq_nil_iff_forall_not_mem.2 (fun j hj => ?_)
      have h0 := (mem_ready.1 hj).1
      have h1 := List.count_eq_zero.1 hc
      rcases Nat.lt_or_ge j listed.size with h' | h'
      · simp [h'] at h0
        exact h1 (by rw [← h0]; simp)
      · simp [Array.getElem?_eq_none h'] at h0
    exact ⟨hr, hend listed a w hinv hr⟩
  | succ fuel ih =>
    intro listed a w hinv hc
    refine ⟨hend listed a w hinv, fun i hi => ?_⟩
    obtain ⟨hun, o, ho', hall⟩ := mem_ready.1 hi
    have ho : l[i]? = some o := by rw [← List.getElem?_toArray]; exact ho'
    have hilt : i < l.length := (List.getElem?_eq_some_iff.1 ho).1
    obtain ⟨ks, d, hks, hd, hdn, _, hlk, _⟩ := regionOk_at hok ho
    have hR : Rs[i]? = some Rs[i] := List.getElem?_eq_getElem (by omega)
    have hw := hat i o ks Rs[i] ho hks hR a w hinv.kp (knows_ofC hinv hi ho hlen ks hlk)
    have hcnt : (listed.setIfInBounds i true).toList.count false = fuel := by
      have hls : i < listed.size := by rw [hinv.ls]; exact hilt
      have hg : listed.toList[i]'(by simpa using hls) = false := by simpa [hls] using hun
      rw [Array.toList_setIfInBounds, List.count_set (by simpa using hls), hg, hc]
      simp
    have next : ∀ v w', (Kc w w' ∧ Kp [] w0 w') → Rs[i] v w' → wpAny P .any l.toArray Q fuel (listed.setIfInBounds i true) (a.put o.dst v) w' := fun v w' hk hv =>
      ih _ _ _ (inv_stepC hok hst hinv hi ho hR hk hv) hcnt
    unfold wantsC at hw
    unfold wpOp
    simp only [ho']
    split
    · rename_i hwn
      rw [if_pos hwn] at hw
      refine .inl ?_
      unfold Oper.wp
      generalize (execOp a.eval o).run P w = r at *
      cases r with
      | ok x w' =>
        cases x <;> simp only [grownC] at hw <;> simp only [Oper.upon]
        case value v => exact next v w' hw.1 hw.2
        case skip => exact next undef w' hw.1 hw.2
        case enter f args =>
          refine hw.mono ?_
          rintro e w'' ⟨v, rfl, h1, h2⟩
          exact next v w'' h1 h2
      | halt x w' => simp only [grownC] at hw
    · rename_i hwn
      rw [if_neg hwn] at hw
      exact next undef w ⟨Kc.refl _, hinv.kp⟩ hw

/-- **One look at each operation serves every order.** -/
theorem region_growC {id : Nat} {w : World} (hm : P.follows .mixedOrders = true) (Rs : List Tell) (kss : List (List (Tmp × Option Nat))) (hok : regionOk l kss a0.tmps.size = true) (hst : ∀ R ∈ Rs, Tell.stableC R)
    (hs : StepsC P l.toArray a0 w.drew Rs l kss Rs) (hf : ∀ w', Kp [] w.drew w' → FinR Q l Rs a0 w') : (Code.region id l.toArray true).wp P Q a0 w := by
  refine wp_region_any hm ?_
  refine wpAny_growC (w0 := w.drew) hok hst hs hf _ _ _ _ ⟨Kp.refl _ _, rfl, rfl, by simp, fun i d R h => ?_, fun _ _ => rfl, fun i o _ h => ?_⟩ ?_
  · exfalso; revert h; simp only [Array.getD_eq_getD_getElem?, Array.getElem?_replicate]; split <;> simp
  · exfalso; revert h; simp only [Array.getD_eq_getD_getElem?, Array.getElem?_replicate]; split <;> simp
  · simp
end

theorem wantsC_of {P : Program} {ops : Array Oper} {o : Oper} {a : Act} {w0 w : World} {R : Tell} (hk : Kp [] w0 w) (h : wants P ops o a w R) : wantsC P ops o a w0 w R := by
  unfold wants at h
  unfold wantsC
  split
  · rename_i hw
    rw [if_pos hw] at h
    generalize (execOp a.eval o).run P w = r at *
    cases r with
    | ok x w' =>
      cases x <;> simp only [grown] at h <;> simp only [grownC]
      case value v => exact ⟨⟨h.1.kc, hk.trans h.1⟩, h.2⟩
      case skip => exact ⟨⟨h.1.kc, hk.trans h.1⟩, h.2⟩
      case enter f args =>
        refine h.mono ?_
        rintro e w'' ⟨v, rfl, h1, h2⟩
        exact ⟨v, rfl, ⟨h1.kc, hk.trans h1⟩, h2⟩
    | halt x w' => simp only [grown] at h
  · rename_i hw
    rw [if_neg hw] at h
    exact h
theorem steps_consC {P : Program} {ops : Array Oper} {a0 : Act} {w0 : World} {Rs : List Tell} {o : Oper} {l : List Oper} {ks : List (Tmp × Option Nat)} {kss : List (List (Tmp × Option Nat))} {R : Tell} {rs : List Tell}
    (h1 : ∀ a w, Kp [] w0 w → Knows a0 Rs a w ks → wantsC P ops o a w0 w R) (h2 : StepsC P ops a0 w0 Rs l kss rs) : StepsC P ops a0 w0 Rs (o :: l) (ks :: kss) (R :: rs) := ⟨h1, h2⟩

/-- A slice of a constant's bytes, new since. -/
def LitT (base : Nat) (bs : List Int) : Tell := fun v w => ∃ g c, v = .slice (some ⟨g, 0, none⟩) bs.length c ∧ base ≤ g ∧ Sl w v bs
theorem stableC_lit (base : Nat) (bs : List Int) : Tell.stableC (LitT base bs) := fun _ _ _ k ⟨g, c, h1, h2, h3⟩ => ⟨g, c, h1, h2, h3.kc k⟩
theorem freeze_kc (w : World) (p : Addr) (n : Nat) : Kc w (w.freeze p n) := by
  unfold World.freeze
  split
  · exact Kc.refl _
  · refine ⟨by simp, fun a v h => ?_⟩
    unfold World.cell? at h ⊢
    by_cases hb : p.block = a.block
    · rw [← hb] at h ⊢
      cases hx : w.heap[p.block]? with
      | none => rw [hx] at h; cases h
      | some o =>
        have hlt : p.block < w.heap.size := (Array.getElem?_eq_some_iff.1 hx).1
        have hx' : w.heap[p.block] = o := by simpa [Array.getElem?_eq_getElem hlt] using hx
        rw [hx] at h
        rw [Array.getElem?_eq_getElem (by simpa using hlt), Array.getElem_modify_self, hx']
        cases o <;> simp_all
    · rw [Array.getElem?_modify, if_neg (by simpa using hb)]
      exact h
theorem freeze_kp {w0 w : World} (hk : Kp [] w0 w) (p : Addr) (n : Nat) (hp : w0.heap.size ≤ p.block) : Kp [] w0 (w.freeze p n) := by
  unfold World.freeze
  split
  · exact hk
  · refine ⟨hk.os, hk.tape, hk.output, by simpa using hk.size, fun k hlt hn => ?_⟩
    rw [Array.getElem?_modify, if_neg (by show ¬ p.block = k; omega)]
    exact hk.block k hlt hn
theorem run_convert_lit (w : World) (a : Addr) (n c : Nat) : ∃ w', (convert 22 22 (.slice (some a) n c)).run Tryz.prog w = .ok (.slice (some a) n c) w' ∧ Kc w w' ∧ ∀ w0, Kp [] w0 w → w0.heap.size ≤ a.block → Kp [] w0 w' := by
  simp [convert, run_underlying Tryz.underlying22, run_underlying Tryz.underlying5, markStringish]
  cases h : w.shape? a.block with
  | none => exact ⟨w, by simp, Kc.refl _, fun _ k _ => k⟩
  | some x => exact ⟨w.freeze ⟨a.block, x.2, none⟩ 1, by simp, freeze_kc _ _ _, fun _ k hb => freeze_kp k _ _ hb⟩
theorem grown_lit {o : Oper} {a : Act} {w0 w : World} (hk : Kp [] w0 w) (bs : List Int) (ho : (execOp a.eval o).run Tryz.prog w = .ok (.value (.slice (some ⟨w.heap.size, 0, none⟩) bs.length bs.length)) (w.alloc (.cells (bs.map (Value.int .u8)).toArray 5))) (hm : bs.length ≤ maxLen) : grown Tryz.prog w (LitT w0.heap.size bs) ((execOp a.eval o).run Tryz.prog w) := by
  rw [ho]
  exact ⟨(Kp.refl _ _).alloc _, w.heap.size, bs.length, rfl, hk.size, Sl.block (cs := bs) (t := 5) (fr := (0, 0)) (heap_alloc_new w _) hm⟩
theorem wantsC_lit {ops : Array Oper} {o : Oper} {a : Act} {w0 w : World} (hk : Kp [] w0 w) (hw : Region.wanted o (yielded ops a.tmps) = true) (x : Operand) (ho : o.op = .convert 22 22 x) (bs : List Int) (h : LitT w0.heap.size bs (a.eval x) w) : wantsC Tryz.prog ops o a w0 w (SlT bs) := by
  obtain ⟨g, c, h1, h2, h3⟩ := h
  obtain ⟨w', hr, k1, k2⟩ := run_convert_lit w ⟨g, 0, none⟩ bs.length c
  unfold wantsC
  rw [if_pos hw]
  have e : (execOp a.eval o).run Tryz.prog w = .ok (.value (.slice (some ⟨g, 0, none⟩) bs.length c)) w' := by
    unfold execOp
    simp only [ho, h1, Sem.run_bind, hr, Result.andThen_ok, Sem.run_pure]
  rw [e]
  rw [h1] at h3
  exact ⟨⟨k1, k2 w0 hk h2⟩, h3.kc k1⟩
end Go.Proofs.YtillhpgdlmeajaaGreatDoor
