/-
  Plain facts on heaps of entries.
-/
import Derived.Test.YtlmbheobaiibeaaQRow
import Derived.Sort.LotB
import Derived.Sort.AssemblyPlain
namespace Go.Proofs.Ytlmbheobaiibeaa
open Go.Sort

theorem swoE' : SWO ltE where
  irrefl := fun x => by simp [ltE]
  trans := fun x y z h1 h2 => by
    unfold ltE at *
    split at h1 <;> split at h2 <;> split <;> simp at * <;> omega
  ntrans := fun x y z h1 h2 => by
    unfold ltE at *
    split at h1 <;> split at h2 <;> split <;> simp at * <;> omega
/-- The order turned round. -/
def gtE (x y : En) : Bool := ltE y x
theorem swoG : SWO gtE where
  irrefl := fun x => swoE'.irrefl x
  trans := fun x y z h1 h2 => swoE'.trans z y x h2 h1
  ntrans := fun x y z h1 h2 => swoE'.ntrans z y x h2 h1
/-- The first n entries are a heap: none is less than its parent. -/
def Hp (d : Array En) (n : Nat) : Prop := ∀ k, 0 < k → k < n → ltE d[k]! d[(k - 1) / 2]! = false
theorem hp_ok {d : Array En} {n : Nat} : Hp d n ↔ ∀ i, i < n → Ok gtE 0 n d i := by
  constructor
  · intro h i hi k hk hkn
    simp only [Nat.zero_add]
    have := h k (by omega) hkn
    rw [show (k - 1) / 2 = i by omega] at this
    exact this
  · intro h k h0 hk
    have := h ((k - 1) / 2) (by omega) k (by omega) hk
    simp only [Nat.zero_add] at this
    exact this
theorem hp_root {d : Array En} {n : Nat} (h : Hp d n) (i : Nat) (hi : i < n) : ltE d[i]! d[0]! = false := by
  have := root_max swoG (hp_ok.1 h) i i (Nat.le_refl _) hi
  simpa [gtE] using this
/-- What container/heap's up does, from a place no farther than f. -/
def upF : Nat → Array En → Nat → Array En
  | 0, d, _ => d
  | f + 1, d, j => if 0 < j then (if ltE d[j]! d[(j - 1) / 2]! then upF f (swp d ((j - 1) / 2) j) ((j - 1) / 2) else d) else d
theorem upF_succ (f : Nat) (d : Array En) (j : Nat) : upF (f + 1) d j = if 0 < j then (if ltE d[j]! d[(j - 1) / 2]! then upF f (swp d ((j - 1) / 2) j) ((j - 1) / 2) else d) else d := rfl
theorem upF_eq : ∀ (f g : Nat) (d : Array En) (j : Nat), j ≤ f → j ≤ g → upF f d j = upF g d j
  | 0, 0, _, _, _, _ => rfl
  | 0, g + 1, d, j, h, _ => by
    obtain rfl : j = 0 := by omega
    rfl
  | f + 1, 0, d, j, _, h => by
    obtain rfl : j = 0 := by omega
    rfl
  | f + 1, g + 1, d, j, hf, hg => by
    show (if 0 < j then _ else _) = (if 0 < j then _ else _)
    by_cases h : 0 < j
    · rw [if_pos h, if_pos h, upF_eq f g _ ((j - 1) / 2) (by omega) (by omega)]
    · rw [if_neg h, if_neg h]
/-- What container/heap's up does. -/
def upP (d : Array En) (j : Nat) : Array En := upF j d j
theorem upP_zero (d : Array En) : upP d 0 = d := rfl
theorem upP_stop (d : Array En) (j : Nat) (h : ltE d[j]! d[(j - 1) / 2]! = false) : upP d j = d := by
  cases j with
  | zero => rfl
  | succ j =>
    show upF (j + 1) d (j + 1) = d
    rw [upF_succ, if_pos (by omega), h]
    rfl
theorem upP_go (d : Array En) (j : Nat) (h0 : 0 < j) (h : ltE d[j]! d[(j - 1) / 2]! = true) : upP d j = upP (swp d ((j - 1) / 2) j) ((j - 1) / 2) := by
  cases j with
  | zero => omega
  | succ j =>
    show upF (j + 1) d (j + 1) = _
    rw [upF_succ, if_pos (by omega), h, if_pos rfl]
    exact upF_eq _ _ _ _ (by omega) (Nat.le_refl _)
theorem up_heap (n : Nat) : ∀ (m j : Nat) (d : Array En), j ≤ m → n ≤ d.size → j < n → (∀ k, 0 < k → k < n → k ≠ j → ltE d[k]! d[(k - 1) / 2]! = false) →
    (∀ k, 0 < k → k < n → (k - 1) / 2 = j → 0 < j → ltE d[k]! d[(j - 1) / 2]! = false) → Hp (upP d j) n ∧ PermIn 0 n d (upP d j) := by
  intro m
  induction m with
  | zero =>
    intro j d hm hn hj h1 h2
    obtain rfl : j = 0 := by omega
    rw [upP_zero]
    exact ⟨fun k h0 hk => h1 k h0 hk (by omega), permIn_refl d _ _⟩
  | succ m ih =>
    intro j d hm hn hj h1 h2
    by_cases h0 : 0 < j
    · cases hl : ltE d[j]! d[(j - 1) / 2]! with
      | false =>
        rw [upP_stop d j hl]
        refine ⟨fun k hk0 hk => ?_, permIn_refl d _ _⟩
        by_cases hkj : k = j
        · subst hkj; exact hl
        · exact h1 k hk0 hk hkj
      | true =>
        rw [upP_go d j h0 hl]
        obtain ⟨i, hi⟩ : ∃ i, i = (j - 1) / 2 := ⟨_, rfl⟩
        rw [← hi] at hl h2 ⊢
        have gI : (swp d i j)[i]! = d[j]! := swp_left d _ _ (by omega) (by omega)
        have gJ : (swp d i j)[j]! = d[i]! := swp_right d _ _ (by omega)
        have gO : ∀ k, k ≠ i → k ≠ j → (swp d i j)[k]! = d[k]! := fun k a b => swp_other d _ _ _ (by omega) (by omega)
        have A1 : ∀ k, 0 < k → k < n → k ≠ i → ltE (swp d i j)[k]! (swp d i j)[(k - 1) / 2]! = false := by
          intro k hk0 hk hki
          by_cases hkj : k = j
          · rw [hkj, gJ, show (j - 1) / 2 = i from hi.symm, gI]; exact swoE'.asym hl
          · rw [gO k hki hkj]
            by_cases hp1 : (k - 1) / 2 = j
            · rw [hp1, gJ]; exact h2 k hk0 hk hp1 h0
            · by_cases hp2 : (k - 1) / 2 = i
              · rw [hp2, gI]
                have h3 := h1 k hk0 hk hkj
                rw [hp2] at h3
                cases h4 : ltE d[k]! d[j]! with
                | false => rfl
                | true => have := swoE'.trans _ _ _ h4 hl; rw [h3] at this; cases this
              · rw [gO _ hp2 hp1]; exact h1 k hk0 hk hkj
        have A2 : ∀ k, 0 < k → k < n → (k - 1) / 2 = i → 0 < i → ltE (swp d i j)[k]! (swp d i j)[(i - 1) / 2]! = false := by
          intro k hk0 hk hkp hi0
          rw [gO ((i - 1) / 2) (by omega) (by omega)]
          have h5 := h1 i hi0 (by omega) (by omega)
          by_cases hkj : k = j
          · rw [hkj, gJ]; exact h5
          · rw [gO k (by omega) hkj]
            have h3 := h1 k hk0 hk hkj
            rw [hkp] at h3
            exact swoE'.ntrans _ _ _ h3 h5
        obtain ⟨r1, r2⟩ := ih i (swp d i j) (by omega) (by rw [size_swp]; exact hn) (by omega) A1 A2
        exact ⟨r1, permIn_trans _ _ _ _ _ (swp_permIn d 0 n i j (by omega) (by omega) (by omega) (by omega) hn) r2⟩
    · obtain rfl : j = 0 := by omega
      rw [upP_zero]
      exact ⟨fun k hk0 hk => h1 k hk0 hk (by omega), permIn_refl d _ _⟩
/-- One entry behind a heap, brought up. -/
theorem up_push {d : Array En} {n : Nat} (h : Hp d n) (hn : n + 1 = d.size) : Hp (upP d n) (n + 1) ∧ PermIn 0 (n + 1) d (upP d n) :=
  up_heap (n + 1) n n d (Nat.le_refl _) (by omega) (by omega) (fun k h0 hk hkn => h k h0 (by omega)) (fun k h0 hk hp _ => by omega)
/-- The root replaced by another entry, brought down. -/
theorem down_root {d : Array En} {n : Nat} (hn : n ≤ d.size) (h : ∀ k, 0 < k → k < n → (k - 1) / 2 ≠ 0 → ltE d[k]! d[(k - 1) / 2]! = false) : Hp (siftDown gtE n 0 0 d) n ∧ PermIn 0 n d (siftDown gtE n 0 0 d) := by
  have := sift swoG n 0 0 n 0 d (by omega) (by omega) (Nat.le_refl _) (fun i _ hi hi0 k hk hkn => by
    simp only [Nat.zero_add]
    have := h k (by omega) hkn (by omega)
    rw [show (k - 1) / 2 = i by omega] at this
    exact this) (fun p _ hp => by omega)
  refine ⟨hp_ok.2 (fun i hi => this.1 i (Nat.zero_le _) hi), ?_⟩
  have h2 := this.2
  rwa [Nat.zero_add] at h2
/-- heap.Init. -/
theorem build_heap (d : Array En) : Hp (heapBuild gtE d.size 0 (d.size / 2) d) d.size ∧ PermIn 0 d.size d (heapBuild gtE d.size 0 (d.size / 2) d) := by
  have := build swoG d.size 0 (d.size / 2) d (by omega) (fun i hi _ k hk hkn => by omega)
  refine ⟨hp_ok.2 this.1, ?_⟩
  have h2 := this.2
  rwa [Nat.zero_add] at h2
theorem perm_all {d d' : Array En} (h : PermIn 0 d.size d d') : d'.toList.Perm d.toList := by
  obtain ⟨h1, _, h3⟩ := h
  have e1 : d.extract 0 d.size = d := Array.extract_size
  have e2 : d'.extract 0 d.size = d' := by rw [← h1]; exact Array.extract_size
  rwa [e1, e2] at h3
end Go.Proofs.Ytlmbheobaiibeaa
