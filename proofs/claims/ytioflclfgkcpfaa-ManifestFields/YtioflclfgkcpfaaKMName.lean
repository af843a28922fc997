/-
  The contracts of package manifest's isName and Right.
-/
import Derived.Test.YtioflclfgkcpfaaKLMan
namespace Go.Proofs.Ytioflclfgkcpfaa
open Go.RowKit
open Go.Proofs

theorem lowP_bad {ns : List Int} (k : Nat) (h : k < ns.length) (hb : ns[k] < 97 ∨ 122 < ns[k]) : nameP ns = false := by
  have : lowP ns = false := by
    unfold lowP
    rw [List.all_eq_false]
    refine ⟨ns[k], List.getElem_mem h, ?_⟩
    simp only [Bool.and_eq_true, decide_eq_true_eq]
    omega
  unfold nameP
  rw [this, Bool.and_false]
theorem lowP_good {ns : List Int} (h1 : 1 ≤ ns.length) (h2 : ns.length ≤ 20) (hb : ∀ i (h : i < ns.length), 97 ≤ ns[i] ∧ ns[i] ≤ 122) : nameP ns = true := by
  unfold nameP lowP
  simp only [Bool.and_eq_true, decide_eq_true_eq, List.all_eq_true]
  refine ⟨⟨h1, h2⟩, fun x hx => ?_⟩
  obtain ⟨i, hi, rfl⟩ := List.getElem_of_mem hx
  exact hb i hi
theorem nameP_long {ns : List Int} (h : ns.length < 1 ∨ 20 < ns.length) : nameP ns = false := by
  unfold nameP
  cases hc : decide (1 ≤ ns.length) && decide (ns.length ≤ 20)
  · rw [Bool.false_and]
  · simp only [Bool.and_eq_true, decide_eq_true_eq] at hc; omega

set_option maxRecDepth 100000 in
set_option maxHeartbeats 1000000 in
theorem isName_any (S : ByteArray) (b : Bool) (hb : b = nameP (nums S)) (w : World) :
    Calls Try.prog 35 #[.string S] w fun e w' => e = .returned (.bool b) ∧ Kp [] w w' := by
  by_cases hN : 1 ≤ S.size ∧ S.size ≤ 20
  · obtain ⟨c, w1, hcv, S1, K1⟩ := conv_of_string S w (by omega)
    obtain ⟨hN1, hN2⟩ := hN
    have hlt1 : ¬ (S.size : Int) < 1 := by omega
    have hgt1 : ¬ (20 : Int) < (S.size : Int) := by omega
    obtain ⟨bk, off, e1, e2, hcell⟩ := S1.at2 (by omega)
    injection e1 with e1
    injection e1 with ea eb ec
    subst ea
    subst eb
    have hl : (nums S).length = S.size := nums_len S
    have HB := hide hb
    have HC := hide hcell
    have HL := hide hl
    have HBS := hide (nums_bs S)
    have HK := hide K1
    clear hb hcell hl S1 e2 K1
    go_enter Try.func35, Try.ntmps35
    go_wp2_with fail
    go_loopw [4, 16] (fun _ i wr => ∃ k : Nat, k ≤ S.size ∧ i = .int .i64 k ∧ (∀ i (h : i < (nums S).length), i < k → 97 ≤ (nums S)[i] ∧ (nums S)[i] ≤ 122) ∧ wr = w1) (fun _ i _ => S.size - (intOf i).toNat)
    case atStart => exact ⟨0, by omega, rfl, (fun i h h' => by omega), rfl⟩
    case round =>
      obtain ⟨k, hk, rfl, hgood, hw⟩ := hrel
      subst wr
      have HGood := hide hgood
      clear hgood
      by_cases hlt : k < S.size
      · have hlt2 : (k : Int) < (S.size : Int) := by omega
        have hkl : k < (nums S).length := by have := unhide HL; omega
        have hc := unhide HC k hkl
        rw [Nat.zero_add] at hc
        obtain ⟨x, hx⟩ : ∃ x, x = (nums S)[k] := ⟨_, rfl⟩
        have hx0 := unhide HBS _ (List.getElem_mem hkl)
        have HX := hide hx
        rw [← hx] at hc hx0
        obtain ⟨hx0, hx1⟩ := hx0
        clear hx
        by_cases h1 : x < 97
        · have hbad := hide (lowP_bad k hkl (.inl (by rw [← unhide HX]; exact h1)))
          have hd : decide (x < 97) = true := decide_eq_true h1
          go_wp2_with fail
          go_ret
          exact ⟨by rw [unhide HB, unhide hbad]; rfl, unhide HK⟩
        · have hd : decide (x < 97) = false := decide_eq_false h1
          by_cases h2 : 122 < x
          · have hbad := hide (lowP_bad k hkl (.inr (by rw [← unhide HX]; exact h2)))
            have hd2 : decide (122 < x) = true := decide_eq_true h2
            go_wp2_with fail
            go_ret
            exact ⟨by rw [unhide HB, unhide hbad]; rfl, unhide HK⟩
          · have hd2 : decide (122 < x) = false := decide_eq_false h2
            go_wp2_with fail
            go_roundw
            case rel =>
              refine ⟨k + 1, by omega, by go_num, fun i hi hik => ?_, by trivial⟩
              rcases Nat.lt_or_ge i k with h | h
              · exact unhide HGood i hi h
              · obtain rfl : i = k := by omega
                rw [← unhide HX]; omega
            case measure => simp [intOf]; omega
      · obtain rfl : k = S.size := by omega
        have hgd := hide (lowP_good (ns := nums S) (by have := unhide HL; omega) (by have := unhide HL; omega) (fun i hi => unhide HGood i hi (by have := unhide HL; omega)))
        have hlt2 : ¬ (S.size : Int) < (S.size : Int) := by omega
        go_wp2_with fail
        go_ret
        exact ⟨by rw [unhide HB, unhide hgd]; rfl, unhide HK⟩
  · have hbad : nameP (nums S) = false := nameP_long (by rw [nums_len]; omega)
    rw [hbad] at hb
    subst hb
    by_cases h1 : S.size < 1
    · have h1' : (S.size : Int) < 1 := by omega
      go_enter Try.func35, Try.ntmps35
      go_wp2_with fail
      go_ret
      exact ⟨rfl, Kp.refl _ _⟩
    · have h1' : ¬ (S.size : Int) < 1 := by omega
      have h2' : (20 : Int) < (S.size : Int) := by omega
      go_enter Try.func35, Try.ntmps35
      go_wp2_with fail
      go_ret
      exact ⟨rfl, Kp.refl _ _⟩

set_option maxRecDepth 100000 in
set_option maxHeartbeats 1000000 in
theorem mright_any (v : Value) (m : Mf) (b : Bool) (hb : b = rgtM m) (w : World) (hV : MV w v m) :
    Calls Try.prog 19 #[v] w fun e w' => e = .returned (.bool b) ∧ Kp [] w w' := by
  obtain ⟨af, nf, cf, an, nn, cn, rfl, hF, hNt, hok⟩ := hV
  have hnf := sl_nlen hF
  have hnn := sl_nlen hNt
  obtain ⟨s, x, f, n⟩ := m
  simp only at hF hNt hnf hnn ⊢
  obtain ⟨bn, hbn⟩ : ∃ bn, bn = nameP (nums s) := ⟨_, rfl⟩
  have hb2 : b = (bn && decide (0 < x) && decide (nf = 32) && decide (nn ≤ 64)) := by rw [hb, hbn, hnf, hnn]; rfl
  have hx0 : 0 ≤ x := hok.v0
  obtain ⟨ob, hob⟩ : ∃ o : Obj, o = (.cells #[.string s, .int .u32 x, .slice af nf cf, .slice an nn cn] 25) := ⟨_, rfl⟩
  have K1 : Kp [] w (w.alloc ob) := (Kp.refl [] w).alloc ob
  have HI := hide (isName_any s bn hbn (w.alloc ob))
  have G1 : Hid ((w.alloc ob).heap[w.heap.size]? = some (.cells #[.string s, .int .u32 x, .slice af nf cf, .slice an nn cn] 25 (0, 0))) := by rw [hob]; exact heap_alloc_new w _
  rw [hob] at K1 HI G1
  have HK1 := hide K1
  have HB := hide hb2
  have hcf : (cf : Int) ≤ 9223372036854775807 := by obtain ⟨_, _, e, h1, h2, _⟩ := hF; injection e with _ _ e3; unfold maxLen at h2; omega
  have hfc : (nf : Int) ≤ 9223372036854775807 := by obtain ⟨_, _, e, h1, h2, _⟩ := hF; injection e with _ e2 e3; unfold maxLen at h2; omega
  have hnc : (nn : Int) ≤ 9223372036854775807 := by obtain ⟨_, _, e, h1, h2, _⟩ := hNt; injection e with _ e2 e3; unfold maxLen at h2; omega
  clear hob K1 hb hb2 hbn hF hNt hok hnf hnn
  cases bn
  · have HE : Hid (b = false) := hide (by rw [unhide HB]; rfl)
    clear HB
    go_enter Try.func19, Try.ntmps19
    go_wp2_with fail
    refine (unhide HI).mono ?_
    rintro ee w2 ⟨rfl, K2⟩
    have HK2 := hide ((unhide HK1).trans K2)
    obtain ⟨-, e1, e2, e3⟩ := cell_man (K2.heap (unhide G1) (by simp))
    clear HI K2 HK1 G1
    go_wp2_with fail
    go_ret
    exact ⟨by rw [unhide HE]; rfl, unhide HK2⟩
  · by_cases h1 : 0 < x
    · by_cases h2 : nf = 32
      · have h2i : (nf : Int) = 32 := by omega
        by_cases h3 : nn ≤ 64
        · have h3i : (nn : Int) ≤ 64 := by omega
          have HE : Hid (b = true) := hide (by rw [unhide HB]; simp [h1, h2, h3])
          clear HB
          subst h2
          go_enter Try.func19, Try.ntmps19
          go_wp2_with fail
          refine (unhide HI).mono ?_
          rintro ee w2 ⟨rfl, K2⟩
          have HK2 := hide ((unhide HK1).trans K2)
          obtain ⟨-, e1, e2, e3⟩ := cell_man (K2.heap (unhide G1) (by simp))
          clear HI K2 HK1 G1
          go_wp2_with fail
          go_ret
          exact ⟨by rw [unhide HE]; rfl, unhide HK2⟩
        · have h3i : (64 : Int) < (nn : Int) := by omega
          have HE : Hid (b = false) := hide (by rw [unhide HB]; simp [h3])
          clear HB
          subst h2
          go_enter Try.func19, Try.ntmps19
          go_wp2_with fail
          refine (unhide HI).mono ?_
          rintro ee w2 ⟨rfl, K2⟩
          have HK2 := hide ((unhide HK1).trans K2)
          obtain ⟨-, e1, e2, e3⟩ := cell_man (K2.heap (unhide G1) (by simp))
          clear HI K2 HK1 G1
          go_wp2_with fail
          go_ret
          exact ⟨by rw [unhide HE]; exact congrArg (fun t => Ending.returned (Value.bool t)) (decide_eq_false (by omega)), unhide HK2⟩
      · have h2i : ¬ (nf : Int) = 32 := by omega
        have HE : Hid (b = false) := hide (by rw [unhide HB]; simp [h2])
        clear HB
        go_enter Try.func19, Try.ntmps19
        go_wp2_with fail
        refine (unhide HI).mono ?_
        rintro ee w2 ⟨rfl, K2⟩
        have HK2 := hide ((unhide HK1).trans K2)
        obtain ⟨-, e1, e2, e3⟩ := cell_man (K2.heap (unhide G1) (by simp))
        clear HI K2 HK1 G1
        go_wp2_with fail
        go_ret
        exact ⟨by rw [unhide HE]; rfl, unhide HK2⟩
    · obtain rfl : x = 0 := by omega
      have HE : Hid (b = false) := hide (by rw [unhide HB]; rfl)
      clear HB
      go_enter Try.func19, Try.ntmps19
      go_wp2_with fail
      refine (unhide HI).mono ?_
      rintro ee w2 ⟨rfl, K2⟩
      have HK2 := hide ((unhide HK1).trans K2)
      obtain ⟨-, e1, e2, e3⟩ := cell_man (K2.heap (unhide G1) (by simp))
      clear HI K2 HK1 G1
      go_wp2_with fail
      go_ret
      exact ⟨by rw [unhide HE]; rfl, unhide HK2⟩
end Go.Proofs.Ytioflclfgkcpfaa
