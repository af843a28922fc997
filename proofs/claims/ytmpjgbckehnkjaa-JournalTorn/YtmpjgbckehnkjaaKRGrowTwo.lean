/-
  Regions that draw their order in two parts: the first operations keep an invariant over what was done; once the last of them is done, the others only make memory, and mark what they made.
-/
import Derived.Test.YtmpjgbckehnkjaaKRGrowX
import Derived.Test.YtmpjgbckehnkjaaKRGrowC
namespace Go.Proofs.Ytmpjgbckehnkjaa
open Go.RowKit

/-- behind the first n none is ready as long as the last of them is not done. -/
def waitB (l : List Oper) (n : Nat) : Bool :=
  ((List.range l.length).all fun t => decide (t < n) || (match l[t]? with | some o => (odeps o).any fun k => k == n - 1 || decide (n ≤ k) | none => true)) && ((List.range (n - 1)).all fun i => (List.range n).any fun j => decide (i < j) && (match l[j]? with | some o => (odeps o).contains i | none => false))
section
variable {K : World → World → Prop} {G : Array Bool → Act → World → Prop} {P : Program} {l : List Oper} {Q : Exit → Act → World → Prop} {a0 : Act} {Rs Rs1 : List Tell} {kss : List (List (Tmp × Option Nat))} {n i N : Nat} {listed : Array Bool} {a : Act} {w w' w0 : World} {o : Oper} {R : Tell} {v : Value}
theorem waitB_one (h : waitB l n = true) {t : Nat} (ht : n ≤ t) {o : Oper} (ho : l[t]? = some o) : ∃ k ∈ odeps o, k = n - 1 ∨ n ≤ k := by
  have hlt : t < l.length := (List.getElem?_eq_some_iff.1 ho).1
  unfold waitB at h
  rw [Bool.and_eq_true] at h
  have h1 := List.all_eq_true.1 h.1 t (List.mem_range.2 hlt)
  simp only [ho, Bool.or_eq_true, decide_eq_true_eq, List.any_eq_true, beq_iff_eq] at h1
  rcases h1 with h1 | ⟨k, hk, h2⟩
  · omega
  · exact ⟨k, hk, h2⟩
/-- what is behind is not done as long as the last of the first is not. -/
theorem wait_none (h : waitB l n = true) (hok : regionOkN l kss N = true) (hcl : ClosedL l listed) (hls : listed.size = l.length) (hun : listed.getD (n - 1) false = false) : ∀ (t : Nat), n ≤ t → listed.getD t false = false := by
  have key : ∀ (d t : Nat), n ≤ t → t - n = d → listed.getD t false = false := by
    intro d
    induction d using Nat.strongRecOn with
    | _ d ih =>
      intro t ht hd
      cases hc : listed.getD t false with
      | false => rfl
      | true =>
        exfalso
        have hlt : t < l.length := by
          rw [← hls]
          rcases Nat.lt_or_ge t listed.size with h' | h'
          · exact h'
          · rw [Array.getD_eq_getD_getElem?, Array.getElem?_eq_none h'] at hc; cases hc
        have ho := List.getElem?_eq_getElem hlt
        obtain ⟨k, hk, h2⟩ := waitB_one h ht ho
        have hlk := hcl t _ ho hc k hk
        obtain ⟨_, _, hdep, _⟩ := regionOkN_at hok ho
        have hkt := hdep k hk
        rcases h2 with h2 | h2
        · rw [h2, hun] at hlk; cases hlk
        · rw [ih (k - n) (by omega) k h2 rfl] at hlk; cases hlk
  exact fun t ht => key _ t ht rfl
/-- once the last of the first is done, all of them are. -/
theorem wait_all (h : waitB l n = true) (hcl : ClosedL l listed) (hl : listed.getD (n - 1) false = true) : ∀ (k : Nat), k < n → listed.getD k false = true := by
  have key : ∀ (d k : Nat), k < n → n - 1 - k = d → listed.getD k false = true := by
    intro d
    induction d using Nat.strongRecOn with
    | _ d ih =>
      intro k hk hd
      by_cases he : k = n - 1
      · rw [he]; exact hl
      · unfold waitB at h
        rw [Bool.and_eq_true] at h
        have h1 := List.all_eq_true.1 h.2 k (List.mem_range.2 (by omega))
        obtain ⟨j, hj, h2⟩ := List.any_eq_true.1 h1
        rw [Bool.and_eq_true] at h2
        have hjn := List.mem_range.1 hj
        have hkj : k < j := of_decide_eq_true h2.1
        cases ho : l[j]? with
        | none => rw [ho] at h2; cases h2.2
        | some o =>
          have h3 := h2.2
          rw [ho] at h3
          exact hcl j o ho (ih (n - 1 - j) (by omega) j hjn rfl) k (by simpa using h3)
  exact fun k hk => key _ k hk rfl
/-- the second part, begun where the first n are done. -/
theorem wpAny_growLn {K : World → World → Prop} {G : Array Bool → Act → World → Prop} (hok : regionOkN l kss a0.tmps.size = true) (hN : ∀ k R, Rs[k]? = some R → dstAt l k = none → ∀ w, R undef w) (hlen : l.length = Rs.length) (hst : ∀ R ∈ Rs, Tell.stableG K R)
    (hs : StepsL K G P l a0 Rs n (l.drop n) (kss.drop n) (Rs.drop n)) (hf : ∀ w', FinR (fun _ a w => (∀ listed, (∀ i, i < l.length → listed.getD i false = true) → G listed a w → Q .normal a w)) l Rs a0 w') :
    ∀ (fuel : Nat) (listed : Array Bool) (a : Act) (w : World), InvL G l Rs a0 listed a w → (∀ k, k < n → listed.getD k false = true) → listed.toList.count false = fuel → wpAny P .any l.toArray Q fuel listed a w := by
  obtain ⟨_, _, hat⟩ := StepsL.at hs
  have hend : ∀ (listed : Array Bool) (a : Act) (w : World), InvL G l Rs a0 listed a w → Region.ready .any l.toArray listed = [] → Q .normal a w := fun listed a w hinv hr =>
    fin_ofL (Q := fun _ a w => (∀ listed, (∀ i, i < l.length → listed.getD i false = true) → G listed a w → Q .normal a w)) hok hN hlen hinv (all_listedL hok hinv hr) l Rs 0 a0 (by simp) (by simp) rfl rfl (fun t ht => (hinv.rest t (fun i _ hd => ht i t (by rw [Nat.zero_add]; exact hd) rfl)).symm) (hf w) listed (all_listedL hok hinv hr) hinv.g
  intro fuel
  induction fuel with
  | zero =>
    intro listed a w hinv _ hc
    have hr : Region.ready .any l.toArray listed = [] := by
      refine List.eq_nil_iff_forall_not_mem.2 (fun j hj => ?_)
      have h0 := (mem_ready.1 hj).1
      have h1 := List.count_eq_zero.1 hc
      rcases Nat.lt_or_ge j listed.size with h' | h'
      · simp [h'] at h0
        exact h1 (by rw [← h0]; simp)
      · simp [Array.getElem?_eq_none h'] at h0
    exact ⟨hr, hend listed a w hinv hr⟩
  | succ fuel ih =>
    intro listed a w hinv hall' hc
    refine ⟨hend listed a w hinv, fun i hi => ?_⟩
    obtain ⟨hun, o, ho', hall⟩ := mem_ready.1 hi
    have ho : l[i]? = some o := by rw [← List.getElem?_toArray]; exact ho'
    have hilt : i < l.length := (List.getElem?_eq_some_iff.1 ho).1
    have hni : n ≤ i := by
      rcases Nat.lt_or_ge i n with h | h
      · have h1 := hall' i h
        rw [getD_both hun] at h1; cases h1
      · exact h
    obtain ⟨ks, hks, _, hlk, _⟩ := regionOkN_at hok ho
    obtain ⟨hnot, hdeps⟩ := ready_facts hi ho
    have hls : i < listed.size := by rw [hinv.ls]; exact hilt
    have hR : Rs[i]? = some (Rs[i]'(by omega)) := List.getElem?_eq_getElem (by omega)
    have e : n + (i - n) = i := by omega
    have hw := hat (i - n) o ks _ (by rw [List.getElem?_drop, e]; exact ho) (by rw [List.getElem?_drop, e]; exact hks) (by rw [List.getElem?_drop, e]; exact hR) listed a w (by rw [e]; exact hnot) hdeps hinv.closed (by rw [e]; exact hls) hinv.g (knows_ofL hinv hnot hdeps hlen ks hlk)
    rw [e] at hw
    have hcnt : (listed.setIfInBounds i true).toList.count false = fuel := by
      have hg : listed.toList[i]'(by simpa using hls) = false := by simpa [hls] using hun
      rw [Array.toList_setIfInBounds, List.count_set (by simpa using hls), hg, hc]
      simp
    have next : ∀ v w', (K w w' ∧ G (listed.setIfInBounds i true) (a.put o.dst v) w') → (Rs[i]'(by omega)) v w' → wpAny P .any l.toArray Q fuel (listed.setIfInBounds i true) (a.put o.dst v) w' := fun v w' hk hv =>
      ih _ _ _ (inv_stepL hok hst hinv hdeps ho hR hk hv) (fun k hk => getD_set_true (hall' k hk)) hcnt
    unfold wantsG at hw
    unfold wpOp
    simp only [ho']
    split
    · rename_i hwn
      rw [if_pos hwn] at hw
      refine .inl ?_
      unfold Oper.wp
      generalize (execOp a.eval o).run P w = r at *
      cases r with
      | ok x w' =>
        cases x <;> simp only [grownG] at hw <;> simp only [Oper.upon]
        case value v => exact next v w' hw.1 hw.2
        case skip => exact next undef w' hw.1 hw.2
        case enter f args =>
          refine hw.mono ?_
          rintro e w'' ⟨v, rfl, h1, h2⟩
          exact next v w'' h1 h2
      | halt x w' => simp only [grownG] at hw
    · rename_i hwn
      rw [if_neg hwn] at hw
      exact next undef w hw.1 hw.2
/-- **Two parts, each drawn.** -/
theorem region_two {id : Nat} {w : World} {K2 : World → World → World → Prop} {G2 : World → Array Bool → Act → World → Prop} (n : Nat) (hm : P.follows .mixedOrders = true) (Rs1 : List Tell) (Rs : World → List Tell) (kss : List (List (Tmp × Option Nat))) (hn : 0 < n ∧ n ≤ l.length) (hwait : waitB l n = true) (hok : regionOkN l kss a0.tmps.size = true) (hlen1 : l.length = Rs1.length) (hlen : ∀ b, l.length = (Rs b).length) (hsame : ∀ b k, k < n → Rs1[k]? = (Rs b)[k]?) (hN : ∀ b k R, (Rs b)[k]? = some R → dstAt l k = none → ∀ w, R undef w)
    (hst1 : ∀ R ∈ Rs1, Tell.stableG K R) (hst : ∀ b, ∀ R ∈ Rs b, Tell.stableG (K2 b) R) (hg : G (Array.replicate l.length false) a0 w.drew)
    (hs1 : StepsL K G P l a0 Rs1 0 (l.take n) (kss.take n) (Rs1.take n))
    (hs2 : ∀ listed a w', (∀ k, k < n → listed.getD k false = true) → (∀ t, n ≤ t → listed.getD t false = false) → a.tmps.size = a0.tmps.size → G listed a w' → G2 w' listed a w' ∧ StepsL (K2 w') (G2 w') P l a0 (Rs w') n (l.drop n) (kss.drop n) ((Rs w').drop n) ∧ ∀ w'', FinR (fun _ a w => (∀ listed, (∀ i, i < l.length → listed.getD i false = true) → G2 w' listed a w → Q .normal a w)) l (Rs w') a0 w'') : (Code.region id l.toArray true).wp P Q a0 w := by
  refine wp_region_any hm ?_
  obtain ⟨_, _, hat⟩ := StepsL.at hs1
  have main : ∀ (fuel : Nat) (listed : Array Bool) (a : Act) (w : World), InvL G l Rs1 a0 listed a w → listed.getD (n - 1) false = false → listed.toList.count false = fuel → wpAny P .any l.toArray Q fuel listed a w := by
    intro fuel
    induction fuel with
    | zero =>
      intro listed a w hinv hun hc
      exfalso
      have h1 := List.count_eq_zero.1 hc
      have hls : n - 1 < listed.size := by rw [hinv.ls]; omega
      refine h1 ?_
      have : listed.toList[n - 1]'(by simpa using hls) = false := by simpa [hls] using hun
      rw [← this]; exact List.getElem_mem _
    | succ fuel ih =>
      intro listed a w hinv hun hc
      refine ⟨fun hr => ?_, fun i hi => ?_⟩
      · have := all_listedL hok hinv hr (n - 1) (by omega)
        rw [this] at hun; cases hun
      · obtain ⟨hun', o, ho', hall⟩ := mem_ready.1 hi
        have ho : l[i]? = some o := by rw [← List.getElem?_toArray]; exact ho'
        have hilt : i < l.length := (List.getElem?_eq_some_iff.1 ho).1
        obtain ⟨ks, hks, _, hlk, _⟩ := regionOkN_at hok ho
        obtain ⟨hnot, hdeps⟩ := ready_facts hi ho
        have hin : i < n := by
          rcases Nat.lt_or_ge i n with h | h
          · exact h
          · exfalso
            obtain ⟨k, hk, h2⟩ := waitB_one hwait h ho
            have hlk := hdeps k hk
            rcases h2 with h2 | h2
            · rw [h2, hun] at hlk; cases hlk
            · rw [wait_none hwait hok hinv.closed hinv.ls hun k h2] at hlk; cases hlk
        have hls : i < listed.size := by rw [hinv.ls]; exact hilt
        have hR : Rs1[i]? = some (Rs1[i]'(by omega)) := List.getElem?_eq_getElem (by omega)
        have hw := hat i o ks _ (by rw [List.getElem?_take, if_pos hin]; exact ho) (by rw [List.getElem?_take, if_pos hin]; exact hks) (by rw [List.getElem?_take, if_pos hin]; exact hR) listed a w (by rw [Nat.zero_add]; exact hnot) hdeps hinv.closed (by rw [Nat.zero_add]; exact hls) hinv.g (knows_ofL hinv hnot hdeps hlen1 ks hlk)
        rw [Nat.zero_add] at hw
        have hcnt : (listed.setIfInBounds i true).toList.count false = fuel := by
          have hg : listed.toList[i]'(by simpa using hls) = false := by simpa [hls] using hun'
          rw [Array.toList_setIfInBounds, List.count_set (by simpa using hls), hg, hc]
          simp
        have next : ∀ v w', (K w w' ∧ G (listed.setIfInBounds i true) (a.put o.dst v) w') → (Rs1[i]'(by omega)) v w' → wpAny P .any l.toArray Q fuel (listed.setIfInBounds i true) (a.put o.dst v) w' := fun v w' hk hv => by
          have hinv' := inv_stepL hok hst1 hinv hdeps ho hR hk hv
          by_cases he : i = n - 1
          · have hlast : (listed.setIfInBounds i true).getD (n - 1) false = true := by rw [← he]; exact getD_set_selfM i hls
            have htail : ∀ t, n ≤ t → (listed.setIfInBounds i true).getD t false = false := fun t ht => by
              rw [getD_set_neM (by omega)]
              exact wait_none hwait hok hinv.closed hinv.ls hun t ht
            obtain ⟨hG2, hsC, hfC⟩ := hs2 _ _ w' (wait_all hwait hinv'.closed hlast) htail hinv'.size hinv'.g
            refine wpAny_growLn (n := n) hok (hN w') (hlen w') (hst w') hsC hfC _ _ _ _ ⟨hG2, hinv'.size, hinv'.defers, hinv'.ls, fun j d R hj hd hRj => ?_, hinv'.rest, hinv'.closed⟩ (wait_all hwait hinv'.closed hlast) hcnt
            have hjn : j < n := by
              rcases Nat.lt_or_ge j n with h | h
              · exact h
              · rw [htail j h] at hj; cases hj
            exact hinv'.told j d R hj hd (by rw [hsame w' j hjn]; exact hRj)
          · exact ih _ _ _ hinv' (by rw [getD_set_neM he]; exact hun) hcnt
        unfold wantsG at hw
        unfold wpOp
        simp only [ho']
        split
        · rename_i hwn
          rw [if_pos hwn] at hw
          refine .inl ?_
          unfold Oper.wp
          generalize (execOp a.eval o).run P w = r at *
          cases r with
          | ok x w' =>
            cases x <;> simp only [grownG] at hw <;> simp only [Oper.upon]
            case value v => exact next v w' hw.1 hw.2
            case skip => exact next undef w' hw.1 hw.2
            case enter f args =>
              refine hw.mono ?_
              rintro e w'' ⟨v, rfl, h1, h2⟩
              exact next v w'' h1 h2
          | halt x w' => simp only [grownG] at hw
        · rename_i hwn
          rw [if_neg hwn] at hw
          exact next undef w hw.1 hw.2
  refine main _ _ _ _ ⟨by simpa using hg, rfl, rfl, by simp, fun i d R h => ?_, fun _ _ => rfl, fun i o _ h => ?_⟩ ?_ ?_
  · exfalso; revert h; simp only [Array.getD_eq_getD_getElem?, Array.getElem?_replicate]; split <;> simp
  · exfalso; revert h; simp only [Array.getD_eq_getD_getElem?, Array.getElem?_replicate]; split <;> simp
  · simp only [Array.getD_eq_getD_getElem?, Array.getElem?_replicate]; split <;> simp
  · simp
end
end Go.Proofs.Ytmpjgbckehnkjaa
