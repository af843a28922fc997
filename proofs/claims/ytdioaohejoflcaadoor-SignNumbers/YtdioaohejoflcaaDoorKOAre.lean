/-
  The contract of the program's areHashes; plain facts on what Root makes of parts.
-/
import Derived.Test.YtdioaohejoflcaaDoorKOPub
namespace Go.Proofs.YtdioaohejoflcaaDoor
open Go.RowKit

theorem areP_bad {ls : List (List Int)} (k : Nat) (h : k < ls.length) (hb : ls[k].length ≠ 32) : areP ls = false := by
  unfold areP
  have : ls.all (fun x => x.length == 32) = false := by
    rw [List.all_eq_false]
    exact ⟨ls[k], List.getElem_mem h, by simpa using hb⟩
  rw [this, Bool.and_false]
theorem areP_good {ls : List (List Int)} (h : ls.length = 64) (hb : ∀ i (h : i < ls.length), ls[i].length = 32) : areP ls = true := by
  unfold areP
  rw [Bool.and_eq_true]
  refine ⟨by simp [h], List.all_eq_true.2 (fun x hx => ?_)⟩
  obtain ⟨i, hi, rfl⟩ := List.getElem_of_mem hx
  simp [hb i hi]
theorem areP_len {ls : List (List Int)} (h : areP ls = true) : ls.length = 64 := by
  unfold areP at h
  simp only [Bool.and_eq_true, beq_iff_eq] at h
  exact h.1
theorem areP_at {ls : List (List Int)} (h : areP ls = true) : ∀ x ∈ ls, x.length = 32 := by
  unfold areP at h
  simp only [Bool.and_eq_true, List.all_eq_true, beq_iff_eq] at h
  exact h.2
theorem areP_short {ls : List (List Int)} (h : ls.length ≠ 64) : areP ls = false := by
  unfold areP
  simp [h]

set_option maxRecDepth 100000 in
set_option maxHeartbeats 1000000 in
theorem are_any (vl : Value) (l : List (Value × List Int)) (b : Bool) (hb : b = areP (l.map (·.2))) (w : World) (hL : Lists w vl l) :
    Calls Tryd.prog 65 #[vl] w fun e w' => e = .returned (.bool b) ∧ w' = w := by
  obtain ⟨al, cl, rfl, hll, hcell⟩ := hL
  by_cases hn : l.length = 64
  · have HN := hide hn
    have HB := hide hb
    have HC := hide hcell
    rw [hn]
    clear hcell hb hll hn
    go_enter Tryd.func65, Tryd.ntmps65
    go_wp2_with fail
    go_loopw [10] (fun i wr => ∃ k : Nat, k ≤ 64 ∧ i = .int .i64 k ∧ (∀ i (h : i < l.length), i < k → l[i].2.length = 32) ∧ wr = w) (fun i _ => 64 - (intOf i).toNat)
    case atStart => exact ⟨0, by omega, rfl, (fun i h h' => by omega), rfl⟩
    case round =>
      obtain ⟨k, hk, rfl, hgood, hw⟩ := hrel
      subst wr
      have HGood := hide hgood
      clear hgood
      by_cases hlt : k < 64
      · have hlt2 : (k : Int) < 64 := by omega
        have hkl : k < l.length := by have := unhide HN; omega
        obtain ⟨b', off, rfl, hc, hS, _⟩ := unhide HC k hkl
        obtain ⟨x, hx⟩ : ∃ x, x = l[k] := ⟨_, rfl⟩
        have HX := hide hx
        rw [← hx] at hc hS
        obtain ⟨ax, cx, hxv, _⟩ := hS
        rw [hxv] at hc
        clear hxv hx HC
        by_cases h32 : x.2.length = 32
        · rw [h32] at hc
          go_wp2_with fail
          go_roundw
          case rel =>
            refine ⟨k + 1, by omega, by go_num, fun i hi hik => ?_, by trivial⟩
            rcases Nat.lt_or_ge i k with h | h
            · exact unhide HGood i hi h
            · obtain rfl : i = k := by omega
              rw [← unhide HX]; exact h32
          case measure => simp [intOf]; omega
        · have hbad := areP_bad (ls := l.map (·.2)) k (by simpa using hkl) (by simp [← unhide HX, h32])
          have h32i : ¬ (x.2.length : Int) = 32 := by omega
          go_wp2_with fail
          go_ret
          exact ⟨by rw [unhide HB, hbad]; rfl, rfl⟩
      · obtain rfl : k = 64 := by omega
        have hgd := areP_good (ls := l.map (·.2)) (by simpa using unhide HN) (fun i hi => by
          have h1 : i < l.length := by simpa using hi
          have := unhide HGood i h1 (by have := unhide HN; omega)
          simpa using this)
        clear HC
        go_wp2_with fail
        go_ret
        exact ⟨by rw [unhide HB, hgd]; rfl, rfl⟩
  · have hbad := areP_short (ls := l.map (·.2)) (by simpa using hn)
    rw [hbad] at hb
    subst hb
    have hni : ¬ (l.length : Int) = 64 := by omega
    clear hcell
    go_enter Tryd.func65, Tryd.ntmps65
    go_wp2_with fail
    go_ret
    exact ⟨rfl, rfl⟩

/-- the parts of the first k bits as Root takes them. -/
def mixP (d : Int) (ls : List (List Int)) (k : Nat) : List (List Int) := ls.mapIdx (fun i x => if i < 2 * k then rtP d i x else x)
theorem mixP_zero (d : Int) (ls : List (List Int)) : mixP d ls 0 = ls := by
  unfold mixP
  apply List.ext_getElem
  · simp
  · intro i h1 h2; simp
theorem mixP_all (d : Int) (ls : List (List Int)) (h : ls.length = 64) : mixP d ls 32 = rtsP d ls := by
  unfold mixP rtsP
  apply List.ext_getElem
  · simp
  · intro i h1 h2
    simp only [List.getElem_mapIdx]
    rw [if_pos (by simp at h1; omega)]
theorem mixP_at (d : Int) (ls : List (List Int)) (k i : Nat) (hi : i < ls.length) (h : i < (mixP d ls k).length) : (mixP d ls k)[i] = if i < 2 * k then rtP d i ls[i] else ls[i] := by simp [mixP]
theorem mixP_succ (d : Int) (ls : List (List Int)) (k p : Nat) (hp : p = 2 * k + sdP d k) (hl : p < ls.length) : (mixP d ls k).set p (sha (11 :: ls[p])) = mixP d ls (k + 1) := by
  have hs := sdP_lt d k
  apply List.ext_getElem
  · simp [mixP]
  · intro i h1 h2
    have hi : i < ls.length := by simpa [mixP] using h2
    rw [List.getElem_set, mixP_at _ _ _ _ hi, mixP_at _ _ _ _ hi]
    by_cases hpi : p = i
    · subst hpi
      rw [if_pos rfl, if_pos (by omega)]
      unfold rtP digC
      rw [if_pos (by rw [show p / 2 = k by omega, show p % 2 = sdP d k by omega]; simp)]
    · rw [if_neg hpi]
      by_cases h3 : i < 2 * k
      · rw [if_pos h3, if_pos (by omega)]
      · rw [if_neg h3]
        by_cases h4 : i < 2 * (k + 1)
        · rw [if_pos h4]
          unfold rtP digC
          rw [if_neg (by rw [show i / 2 = k by omega]; simp; omega)]
        · rw [if_neg h4]
theorem mixP_len (d : Int) (ls : List (List Int)) (k : Nat) : (mixP d ls k).length = ls.length := by simp [mixP]
theorem rtsP_len (d : Int) (ls : List (List Int)) : (rtsP d ls).length = ls.length := by simp [rtsP]
theorem rtsP_small {d : Int} {ls : List (List Int)} (h : ∀ x ∈ ls, x.length = 32) : ∀ x ∈ rtsP d ls, x.length = 32 := by
  intro x hx
  obtain ⟨i, hi, rfl⟩ := List.getElem_of_mem hx
  simp only [rtsP, List.getElem_mapIdx]
  unfold rtP
  split
  · exact sha_len _
  · exact h _ (List.getElem_mem _)
end Go.Proofs.YtdioaohejoflcaaDoor
