/-
  The contract of the law package's helper Leaves.
-/
import Derived.Test.YtphhofgjnlfjmaaDoorKTGrow
namespace Go.Proofs.YtphhofgjnlfjmaaDoor
open Go.RowKit
open Go.Proofs

/-- the leaf of number i, and the first n of them. -/
def kleafP (i : Nat) : List Int := ((List.replicate 32 (0 : Int)).set 0 ((i : Int) % 256)).set 1 ((i : Int) / 256 % 256)
def kleavesP (n : Nat) : List (List Int) := (List.range n).map kleafP
theorem kleafP_len (i : Nat) : (kleafP i).length = 32 := by simp [kleafP]
theorem kleafP_bs (i : Nat) : Bs (kleafP i) := by
  intro b hb
  rcases List.mem_or_eq_of_mem_set hb with hb | rfl
  · rcases List.mem_or_eq_of_mem_set hb with hb | rfl
    · rw [List.eq_of_mem_replicate hb]; omega
    · omega
  · omega
theorem kleavesP_len (n : Nat) : (kleavesP n).length = n := by simp [kleavesP]
theorem kleavesP_succ (n : Nat) : kleavesP (n + 1) = kleavesP n ++ [kleafP n] := by simp [kleavesP, List.range_succ]
theorem kleavesP_all (n : Nat) : ∀ x ∈ kleavesP n, x.length = 32 := by
  intro x hx
  obtain ⟨i, _, rfl⟩ := List.mem_map.1 hx
  exact kleafP_len i
theorem kleavesP_le (n : Nat) : ∀ x ∈ kleavesP n, x.length ≤ 1000 := fun x hx => by have := kleavesP_all n x hx; omega

set_option maxRecDepth 100000 in
set_option maxHeartbeats 2000000 in
theorem kleaves_any (N : Nat) (w : World) (hN : N ≤ 1000) :
    Calls Tryd.prog 9 #[.int .i64 N] w fun e w' => ∃ ao m c, e = .returned (.slice ao m c) ∧ Acc w (kleavesP N) (.slice ao m c) w' := by
  obtain ⟨i0, hi0, hz0, hz1, hz2⟩ := info_parts Tryd.info5
  have hnn : (N : Int) ≤ 1000 := by omega
  go_enter Tryd.func9, Tryd.ntmps9
  go_wp2_with fail
  go_loopw [3, 4] (fun v i wr => ∃ (k m cc : Nat) (ao : Option Addr), k ≤ N ∧ v = .slice ao m cc ∧ i = .int .i64 k ∧ Acc w (kleavesP k) v wr) (fun _ i _ => N - (intOf i).toNat)
  case atStart => exact ⟨0, 0, 0, none, by omega, rfl, rfl, [], ⟨World.ownsRow_nil _ _ _ _, fun x hx => by cases hx⟩, rfl, Kp.refl _ _⟩
  case round =>
    obtain ⟨k, m, cc, ao, hk, rfl, rfl, Ar⟩ := hrel
    have HA := hide Ar
    clear Ar
    by_cases hlt : k < N
    · have hlt2 : (k : Int) < (N : Int) := by omega
      have HLN : Hid ((kleavesP k).length ≤ 1000000) := hide (by rw [kleavesP_len]; omega)
      go_wp2_with (at_make; refine wpList_make_full _ rfl _ _ 30 rfl wr.heap.size 5 i0 (.int .u8 0) 1 Tryd.underlying30 hi0 hz0 hz1 .i64 .i64 _ _ 32 rfl rfl (by omega) (by omega) (by rw [hz2]; omega) (by unfold maxLen; omega) (Nat.le_refl _) ?_; intro w1 o1 g1; refine Hid.out ?_)
      rw [made_zero] at o1
      have K1 : Kp [] wr w1 := (Kp.refl [] wr).grown g1 (by intro k hk; cases hk)
      obtain ⟨g, hg⟩ : ∃ g, g = wr.heap.size := ⟨_, rfl⟩
      have o2 := (o1.stored 0 (.int .u8 ((k : Int) % 256))).1
      have o3 := (o2.stored 1 (.int .u8 ((k : Int) / 256))).1
      have c0 := o1.cellAt 0 (by omega)
      have f0 := o1.frozenAt 0
      have c1 := o2.cellAt 1 (by omega)
      have f1 := o2.frozenAt 1
      have e0 : ((List.replicate 32 (0 : Int)).map (Value.int .u8))[0]? = some (.int .u8 0) := rfl
      have e1 : (((List.replicate 32 (0 : Int)).map (Value.int .u8)).set 0 (.int .u8 ((k : Int) % 256)))[1]? = some (.int .u8 0) := by rfl
      rw [e0] at c0
      rw [e1] at c1
      have hK2 : Kp [] wr ((w1.setCell ⟨wr.heap.size, 0, none⟩ (.int .u8 ((k : Int) % 256))).setCell ⟨wr.heap.size, 1, none⟩ (.int .u8 ((k : Int) / 256))) := (K1.setCell (p := ⟨wr.heap.size, 0, none⟩) (.inr (Nat.le_refl _)) _).setCell (p := ⟨wr.heap.size, 1, none⟩) (.inr (Nat.le_refl _)) _
      have HR : Hid (Row ((w1.setCell ⟨wr.heap.size, 0, none⟩ (.int .u8 ((k : Int) % 256))).setCell ⟨wr.heap.size, 1, none⟩ (.int .u8 ((k : Int) / 256))) wr.heap.size (.slice (some ⟨wr.heap.size, 0, none⟩) 32 32) (kleafP k)) := by
        have e : (((List.replicate 32 (0 : Int)).map (Value.int .u8)).set 0 (.int .u8 ((k : Int) % 256))).set 1 (.int .u8 ((k : Int) / 256)) = (kleafP k).map (Value.int .u8) := by
          rw [show (k : Int) / 256 = (k : Int) / 256 % 256 by omega]
          rfl
        rw [e] at o3
        unfold Row
        rw [kleafP_len]
        exact o3
      have HK := hide hK2
      have HRB : Hid (Bs (kleafP k)) := kleafP_bs k
      clear o1 o2 o3 g1 K1 hg e0 e1 hK2
      refine hide ?_
      go_wp2_with (at_builtin; refine wpList_acc rfl (.tmp 21) (.tmp 23) rfl _ _ rfl (unhide HA) (unhide HLN) _ (kleafP k) (unhide HK) (unhide HR) (unhide HRB) (by simp [Act.eval, World.setCell]) ?_; intro ao5 m5 c5 w5 A5)
      go_roundw
      case rel => exact ⟨k + 1, m5, c5, ao5, by omega, rfl, by go_num, by rw [kleavesP_succ]; exact A5⟩
      case measure => simp [intOf]; omega
    · obtain rfl : k = N := by omega
      go_wp2_with fail
      go_ret
      exact ⟨ao, m, cc, rfl, unhide HA⟩
end Go.Proofs.YtphhofgjnlfjmaaDoor
