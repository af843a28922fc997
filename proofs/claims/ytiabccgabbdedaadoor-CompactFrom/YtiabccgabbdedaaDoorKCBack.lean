/-
  slices.Backward of a row of slices: its contract.
-/
import Derived.Test.YtiabccgabbdedaaDoorKCEach
import Derived.RangeFuncBox
import Derived.RangeFuncNested
import Derived.RangeFuncBound
import Derived.RangeFuncCalls
import Derived.RangeFuncLeaves
import Derived.Shelf.Abstract
import Derived.Shelf.RegionOpen
import Derived.WalkKit
import Derived.OwnWalkIn
import Derived.TacticsInMore
import Derived.LoopNIn
import Derived.LoopIn
namespace Go.Proofs.YtiabccgabbdedaaDoor
open Go.RowKit Go.Shelf
open Go.Proofs

/-- these blocks lie as they lay. -/
def TwoK (K : List Nat) (W W' : World) : Prop := ∀ k ∈ K, W'.heap[k]? = W.heap[k]?
theorem TwoK.refl (K : List Nat) (W : World) : TwoK K W W := fun _ _ => rfl
theorem TwoK.trans {K : List Nat} {A B C : World} (h : TwoK K A B) (k : TwoK K B C) : TwoK K A C := fun i hi => (k i hi).trans (h i hi)
/-- from the last to the first. -/
def downP (m : Nat) : List (Fin m) := (List.finRange m).reverse
theorem downP_len (m : Nat) : (downP m).length = m := by simp [downP]
theorem downP_at (m k : Nat) (h : k < m) : (downP m).take (k + 1) = (downP m).take k ++ [⟨m - 1 - k, by omega⟩] := by
  rw [List.take_succ_eq_append_getElem (by rw [downP_len]; exact h)]
  congr 2
  simp [downP]

set_option maxRecDepth 100000 in
set_option maxHeartbeats 2000000 in
theorem back1_in (F : Fence) (n : Nat) (hF : F.fn 51) (hro : F.round = none) (hn : 1 ≤ n) (l Bs b cap : Nat) (xs : List Value) (hm : xs.length ≤ 90000) (hv : ∀ x ∈ xs, ∃ ao m c, x = .slice ao m c) (J Jx : List (Fin xs.length) → World → Prop)
    (hY : ∀ pre x W, J pre W → pre.length < xs.length → YieldAt F (n - 1) Tryd.prog l #[.int .i64 ((x.val : Nat) : Int), xs[x]] W fun e W' =>
      (e = .returned (.bool true) ∧ J (pre ++ [x]) W' ∧ TwoK [Bs, b] W W') ∨ (e = .returned (.bool false) ∧ Jx (pre ++ [x]) W'))
    (W : World) (hBs : W.cell? ⟨Bs, 0, none⟩ = some (.slice (some ⟨b, 0, none⟩) xs.length cap)) (hc : ∀ j (hj : j < xs.length), W.cell? ⟨b, j, none⟩ = some xs[j]) (h0 : J [] W) :
    CallsIn F n Tryd.prog 51 #[.func (.yield l) #[] #[], .pointer (some ⟨Bs, 0, none⟩)] W fun e W' => (∃ v, e = .returned v) ∧
      ((∃ ys, ys = downP xs.length ∧ J ys W') ∨ (∃ pre, True ∧ Jx pre W')) := by
  obtain ⟨M, hM⟩ : ∃ M, M = xs.length := ⟨_, rfl⟩
  have hMi : (M : Int) ≤ 90000 := by omega
  have HM := hide hM
  have HY := hide hY
  have HV := hide hv
  have HC := hide hc
  rw [← hM] at hBs
  clear hY hv hc hm
  refine callsIn_of_wp Tryd.func51 rfl hF ?_ hro
  simp only [Tryd.ntmps51, List.size_toArray, List.length_cons, List.length_nil, Nat.reduceAdd, Nat.reduceSub, Array.replicate_succ, Array.replicate_zero, List.push_toArray, List.append_toArray, List.nil_append, List.cons_append]
  clear hM
  gi_wp2
  gi_loopw [3] (fun i wr => ∃ k : Nat, k ≤ M ∧ i = .int .i64 ((M : Int) - 1 - k) ∧ J ((downP xs.length).take k) wr ∧ TwoK [Bs, b] W wr)
    (fun i _ => ((intOf i) + 1).toNat)
  case atStart => exact ⟨0, Nat.zero_le _, by simp, h0, TwoK.refl _ _⟩
  case round =>
    obtain ⟨k, hk, rfl, hJs, hnx⟩ := hrel
    have hbw : wr.cell? ⟨Bs, 0, none⟩ = some (.slice (some ⟨b, 0, none⟩) M cap) := (World.cell?_of_block (hnx Bs (by simp))).trans hBs
    by_cases hlt : k < M
    · have hkx : k < xs.length := by have := unhide HM; omega
      have hjx : xs.length - 1 - k < xs.length := by omega
      have hcx : wr.cell? ⟨b, xs.length - 1 - k, none⟩ = some (xs[xs.length - 1 - k]'hjx) := (World.cell?_of_block (hnx b (by simp))).trans (unhide HC _ hjx)
      obtain ⟨fn, tmps, assign, body, hy, hR⟩ := unhide HY _ ⟨xs.length - 1 - k, hjx⟩ wr hJs (by rw [List.length_take, downP_len]; omega)
      have HD := hide (downP_at xs.length k hkx)
      obtain ⟨ao, mm, cc, ex⟩ := unhide HV _ (List.getElem_mem hjx)
      simp only [Fin.getElem_fin] at hy hR
      rw [ex] at hcx hy
      obtain ⟨i, hi⟩ : ∃ i : Nat, i = M - 1 - k := ⟨_, rfl⟩
      have e1 : xs.length - 1 - k = i := by have := unhide HM; omega
      have e2 : (M : Int) - 1 - (k : Int) = (i : Int) := by omega
      simp only [e1] at hy hcx
      rw [e2]
      have hiM : (i : Int) < (M : Int) := by omega
      have hi0 : (0 : Int) ≤ (i : Int) := by omega
      have HE2 := hide e2
      have HR := hide hR
      have HX := hide hnx
      clear e1 e2 hi hR hnx hJs ex
      gi_wp2
      refine (unhide HR).mono ?_
      rintro e W3 (⟨rfl, hJ3, hk3⟩ | ⟨rfl, hJx3⟩)
      · have HJ3 := hide hJ3
        have HK3 := hide ((unhide HX).trans hk3)
        clear hJ3 hk3 HR HX hy hcx
        gi_wp2
        go_roundw
        case rel => exact ⟨k + 1, by omega, by have := unhide HE2; congr 1; omega, by rw [unhide HD]; exact unhide HJ3, unhide HK3⟩
        case measure => simp [intOf]
      · have HJ3 := hide hJx3
        clear hJx3 HR HX hy hcx
        gi_wp2
        refine bodyPost_ret (results_none rfl _ _ _) rfl ?_
        exact ⟨⟨_, rfl⟩, .inr ⟨_, trivial, unhide HJ3⟩⟩
    · obtain rfl : M = k := by omega
      have e : (M : Int) - 1 - (M : Int) = -1 := by omega
      have HJ := hide hJs
      clear hJs
      rw [e]
      gi_wp2
      go_end0
      refine ⟨⟨_, rfl⟩, .inl ⟨_, rfl, ?_⟩⟩
      have h := unhide HJ
      rwa [List.take_of_length_le (by rw [downP_len, unhide HM]; exact Nat.le_refl _)] at h
set_option maxHeartbeats 1000000 in
theorem back_in (F : Fence) (n : Nat) (hF : F.fn 38) (hro : F.round = none) (a : Option Addr) (len cap : Nat) (w : World) :
    CallsIn F n Tryd.prog 38 #[.slice a len cap] w fun e w' => e = .returned (.func (.func 51) #[] #[.pointer (some ⟨w.heap.size, 0, none⟩)]) ∧ w' = w.alloc (.cells #[.slice a len cap] 47) := by
  refine callsIn_of_wp Tryd.func38 rfl hF ?_ hro
  simp only [Tryd.ntmps38, List.size_toArray, List.length_cons, List.length_nil, Nat.reduceAdd, Nat.reduceSub, Array.replicate_succ, Array.replicate_zero, List.push_toArray, List.append_toArray, List.nil_append, List.cons_append]
  gi_wp2
  go_ret
  exact ⟨rfl, rfl⟩
theorem back_stops (F : Fence) (n : Nat) (hF : F.fn 51) (hro : F.round = none) (hn : 1 ≤ n) (Bs b cap : Nat) (xs : List Value) (hm : xs.length ≤ 90000) (hv : ∀ x ∈ xs, ∃ ao m c, x = .slice ao m c) (w : World) (hBl : Bs < w.heap.size) (hbl : b < w.heap.size)
    (hBs : w.cell? ⟨Bs, 0, none⟩ = some (.slice (some ⟨b, 0, none⟩) xs.length cap)) (hc : ∀ j (hj : j < xs.length), w.cell? ⟨b, j, none⟩ = some xs[j]) :
    SeqStopsK F n Tryd.prog 51 #[.pointer (some ⟨Bs, 0, none⟩)] (fun x : Fin xs.length => #[Value.int .i64 ((x.val : Nat) : Int), xs[x]]) (TwoK [Bs, b]) (fun ys => ys = downP xs.length) (fun _ => True) xs.length w := fun l J Jx W hW _ _ hY h0 =>
  back1_in F n hF hro hn l Bs b cap xs hm hv J Jx hY W ((hW.cell (p := ⟨Bs, 0, none⟩) hBl).trans hBs) (fun j hj => (hW.cell (p := ⟨b, j, none⟩) hbl).trans (hc j hj)) h0
end Go.Proofs.YtiabccgabbdedaaDoor
