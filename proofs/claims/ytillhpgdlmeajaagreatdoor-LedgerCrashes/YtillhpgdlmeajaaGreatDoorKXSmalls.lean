/-
  Checkpoints: which are right, their bodies; checkpoints (api.Checkpoint) as values.
-/
import Derived.Test.YtillhpgdlmeajaaGreatDoorKHTags
import Derived.Test.YtillhpgdlmeajaaGreatDoorKLFlat
namespace Go.Proofs.YtillhpgdlmeajaaGreatDoor
open Go.RowKit
open Go.Proofs

/-- the letters that stand ahead of what a log signs. -/
def letC : List Int := [98, 114, 111, 97, 100, 115, 104, 101, 101, 116, 32, 99, 104, 101, 99, 107]
def rgtC (n : Int) (r : List Int) : Bool := decide (0 ≤ n ∧ n ≤ 256) && (r.length == 32)
def bodC (n : Int) (r : List Int) : List Int := if rgtC n r then letC ++ (be4 n ++ r) else []
theorem rgtC_iff (n : Int) (r : List Int) : rgtC n r = true ↔ (0 ≤ n ∧ n ≤ 256) ∧ r.length = 32 := by simp [rgtC]
theorem Tryz.chkSize : (Tryz.prog.info? 68).map (·.size) = some 2 := by kernel_rfl
theorem sl_nlenf {w : World} {ao : Option Addr} {n c : Nat} {bs : List Int} (h : Sl w (.slice ao n c) bs) : n = bs.length := by
  obtain ⟨_, _, e, _⟩ := h
  injection e
/-- v is the checkpoint of these. -/
def CkV (w : World) (v : Value) (n : Int) (r : List Int) : Prop := ∃ a m c, v = .agg #[.int .i64 n, .slice a m c] ∧ Sl w (.slice a m c) r ∧ Bs r
theorem CkV.kept {w w' : World} {v : Value} {n : Int} {r : List Int} (h : CkV w v n r) (k : Kp [] w w') : CkV w' v n r := by
  obtain ⟨a, m, c, e, h1, h2⟩ := h
  exact ⟨a, m, c, e, h1.kept k (by simp), h2⟩
/-- what an operation of a region yields. -/
def CkT (n : Int) (r : List Int) : Tell := fun v w => CkV w v n r
theorem stable_ck (n : Int) (r : List Int) : Tell.stable (CkT n r) := fun _ _ _ k h => h.kept k
end Go.Proofs.YtillhpgdlmeajaaGreatDoor

/-
  The contracts of Right of a checkpoint: package check's, and the reference's.
-/
namespace Go.Proofs.YtillhpgdlmeajaaGreatDoor
open Go.RowKit
open Go.Proofs

set_option maxRecDepth 100000 in
set_option maxHeartbeats 1000000 in
theorem ckright_any (v : Value) (n : Int) (r : List Int) (b : Bool) (hb : b = rgtC n r) (w : World) (hV : CkV w v n r) :
    Calls Tryz.prog 146 #[v] w fun e w' => e = .returned (.bool b) ∧ Kp [] w w' := by
  obtain ⟨a, m, c, rfl, hS, -⟩ := hV
  have hm := sl_nlenf hS
  have hb2 : b = (decide (0 ≤ n ∧ n ≤ 256) && ((m : Int) == 32)) := by
    rw [hb, hm]
    unfold rgtC
    congr 1
    rw [Bool.eq_iff_iff]
    simp only [beq_iff_eq]
    omega
  have HB := hide hb2
  have HK1 : Hid (Kp [] w (w.alloc (.cells #[.int .i64 n, .slice a m c] 68))) := (Kp.refl [] w).alloc _
  clear hb hb2 hS hm
  by_cases h0 : 0 ≤ n
  · by_cases h1 : n ≤ 256
    · have HE : Hid (b = ((m : Int) == 32)) := hide (by rw [unhide HB]; simp [h0, h1])
      clear HB
      go_enter Tryz.func146, Tryz.ntmps146
      go_wp2_with fail
      go_ret
      exact ⟨by rw [unhide HE]; rfl, unhide HK1⟩
    · have HE : Hid (b = false) := hide (by rw [unhide HB]; simp [h1])
      clear HB
      go_enter Tryz.func146, Tryz.ntmps146
      go_wp2_with fail
      go_ret
      exact ⟨by rw [unhide HE]; rfl, unhide HK1⟩
  · have HE : Hid (b = false) := hide (by rw [unhide HB]; simp [h0])
    clear HB
    go_enter Tryz.func146, Tryz.ntmps146
    go_wp2_with fail
    go_ret
    exact ⟨by rw [unhide HE]; rfl, unhide HK1⟩

set_option maxRecDepth 100000 in
set_option maxHeartbeats 1000000 in
theorem rckright_any (v : Value) (n : Int) (r : List Int) (b : Bool) (hb : b = rgtC n r) (w : World) (hV : CkV w v n r) :
    Calls Tryz.prog 81 #[v] w fun e w' => e = .returned (.bool b) ∧ Kp [] w w' := by
  obtain ⟨a, m, c, rfl, hS, -⟩ := hV
  have hm := sl_nlenf hS
  have hb2 : b = (decide (0 ≤ n ∧ n ≤ 256) && ((m : Int) == 32)) := by
    rw [hb, hm]
    unfold rgtC
    congr 1
    rw [Bool.eq_iff_iff]
    simp only [beq_iff_eq]
    omega
  have HB := hide hb2
  have HK1 : Hid (Kp [] w (w.alloc (.cells #[.int .i64 n, .slice a m c] 68))) := (Kp.refl [] w).alloc _
  clear hb hb2 hS hm
  by_cases h0 : 0 ≤ n
  · by_cases h1 : n ≤ 256
    · have HE : Hid (b = ((m : Int) == 32)) := hide (by rw [unhide HB]; simp [h0, h1])
      clear HB
      go_enter Tryz.func81, Tryz.ntmps81
      go_wp2_with fail
      go_ret
      exact ⟨by rw [unhide HE]; rfl, unhide HK1⟩
    · have HE : Hid (b = false) := hide (by rw [unhide HB]; simp [h1])
      clear HB
      go_enter Tryz.func81, Tryz.ntmps81
      go_wp2_with fail
      go_ret
      exact ⟨by rw [unhide HE]; rfl, unhide HK1⟩
  · have HE : Hid (b = false) := hide (by rw [unhide HB]; simp [h0])
    clear HB
    go_enter Tryz.func81, Tryz.ntmps81
    go_wp2_with fail
    go_ret
    exact ⟨by rw [unhide HE]; rfl, unhide HK1⟩
end Go.Proofs.YtillhpgdlmeajaaGreatDoor
