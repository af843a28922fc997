/-
  Checkpoints: which are right, their bodies; checkpoints (api.Checkpoint) as values.
-/
import Derived.Test.YtbkipibmaghejaaGreatDoorKHTags
import Derived.Test.YtbkipibmaghejaaGreatDoorKLFlat
import Derived.Test.YtbkipibmaghejaaGreatDoorKSWire
namespace Go.Proofs.YtbkipibmaghejaaGreatDoor
open Go.RowKit
open Go.Proofs

/-- the letters that stand ahead of what a log signs. -/
def letC : List Int := [98, 114, 111, 97, 100, 115, 104, 101, 101, 116, 32, 99, 104, 101, 99, 107]
def rgtC (n : Int) (r : List Int) : Bool := decide (0 ≤ n ∧ n ≤ 256) && (r.length == 32)
def bodC (n : Int) (r : List Int) : List Int := if rgtC n r then letC ++ (be4 n ++ r) else []
theorem rgtC_iff (n : Int) (r : List Int) : rgtC n r = true ↔ (0 ≤ n ∧ n ≤ 256) ∧ r.length = 32 := by simp [rgtC]
theorem Tryz.chkSize : (Tryz.prog.info? 25).map (·.size) = some 2 := by kernel_rfl
theorem sl_nlenf {w : World} {ao : Option Addr} {n c : Nat} {bs : List Int} (h : Sl w (.slice ao n c) bs) : n = bs.length := by
  obtain ⟨_, _, e, _⟩ := h
  injection e
/-- v is the checkpoint of these. -/
def CkV (w : World) (v : Value) (n : Int) (r : List Int) : Prop := ∃ a m c, v = .agg #[.int .i64 n, .slice a m c] ∧ Sl w (.slice a m c) r ∧ Bs r
theorem CkV.kept {w w' : World} {v : Value} {n : Int} {r : List Int} (h : CkV w v n r) (k : Kp [] w w') : CkV w' v n r := by
  obtain ⟨a, m, c, e, h1, h2⟩ := h
  exact ⟨a, m, c, e, h1.kept k (by simp), h2⟩
/-- what an operation of a region yields. -/
def CkT (n : Int) (r : List Int) : Tell := fun v w => CkV w v n r
theorem stable_ck (n : Int) (r : List Int) : Tell.stable (CkT n r) := fun _ _ _ k h => h.kept k
end Go.Proofs.YtbkipibmaghejaaGreatDoor

/-
  The contracts of Right of a checkpoint: package check's, and the reference's.
-/
namespace Go.Proofs.YtbkipibmaghejaaGreatDoor
open Go.RowKit
open Go.Proofs

set_option maxRecDepth 100000 in
set_option maxHeartbeats 1000000 in
theorem ckright_any (v : Value) (n : Int) (r : List Int) (b : Bool) (hb : b = rgtC n r) (w : World) (hV : CkV w v n r) :
    Calls Tryz.prog 27 #[v] w fun e w' => e = .returned (.bool b) ∧ Kp [] w w' := by
  obtain ⟨a, m, c, rfl, hS, -⟩ := hV
  have hm := sl_nlenf hS
  have hb2 : b = (decide (0 ≤ n ∧ n ≤ 256) && ((m : Int) == 32)) := by
    rw [hb, hm]
    unfold rgtC
    congr 1
    rw [Bool.eq_iff_iff]
    simp only [beq_iff_eq]
    omega
  have HB := hide hb2
  have HK1 : Hid (Kp [] w (w.alloc (.cells #[.int .i64 n, .slice a m c] 25))) := (Kp.refl [] w).alloc _
  clear hb hb2 hS hm
  by_cases h0 : 0 ≤ n
  · by_cases h1 : n ≤ 256
    · have HE : Hid (b = ((m : Int) == 32)) := hide (by rw [unhide HB]; simp [h0, h1])
      clear HB
      go_enter Tryz.func27, Tryz.ntmps27
      go_wp2_with fail
      go_ret
      exact ⟨by rw [unhide HE]; rfl, unhide HK1⟩
    · have HE : Hid (b = false) := hide (by rw [unhide HB]; simp [h1])
      clear HB
      go_enter Tryz.func27, Tryz.ntmps27
      go_wp2_with fail
      go_ret
      exact ⟨by rw [unhide HE]; rfl, unhide HK1⟩
  · have HE : Hid (b = false) := hide (by rw [unhide HB]; simp [h0])
    clear HB
    go_enter Tryz.func27, Tryz.ntmps27
    go_wp2_with fail
    go_ret
    exact ⟨by rw [unhide HE]; rfl, unhide HK1⟩

set_option maxRecDepth 100000 in
set_option maxHeartbeats 1000000 in
theorem rckright_any (v : Value) (n : Int) (r : List Int) (b : Bool) (hb : b = rgtC n r) (w : World) (hV : CkV w v n r) :
    Calls Tryz.prog 16 #[v] w fun e w' => e = .returned (.bool b) ∧ Kp [] w w' := by
  obtain ⟨a, m, c, rfl, hS, -⟩ := hV
  have hm := sl_nlenf hS
  have hb2 : b = (decide (0 ≤ n ∧ n ≤ 256) && ((m : Int) == 32)) := by
    rw [hb, hm]
    unfold rgtC
    congr 1
    rw [Bool.eq_iff_iff]
    simp only [beq_iff_eq]
    omega
  have HB := hide hb2
  have HK1 : Hid (Kp [] w (w.alloc (.cells #[.int .i64 n, .slice a m c] 25))) := (Kp.refl [] w).alloc _
  clear hb hb2 hS hm
  by_cases h0 : 0 ≤ n
  · by_cases h1 : n ≤ 256
    · have HE : Hid (b = ((m : Int) == 32)) := hide (by rw [unhide HB]; simp [h0, h1])
      clear HB
      go_enter Tryz.func16, Tryz.ntmps16
      go_wp2_with fail
      go_ret
      exact ⟨by rw [unhide HE]; rfl, unhide HK1⟩
    · have HE : Hid (b = false) := hide (by rw [unhide HB]; simp [h1])
      clear HB
      go_enter Tryz.func16, Tryz.ntmps16
      go_wp2_with fail
      go_ret
      exact ⟨by rw [unhide HE]; rfl, unhide HK1⟩
  · have HE : Hid (b = false) := hide (by rw [unhide HB]; simp [h0])
    clear HB
    go_enter Tryz.func16, Tryz.ntmps16
    go_wp2_with fail
    go_ret
    exact ⟨by rw [unhide HE]; rfl, unhide HK1⟩
end Go.Proofs.YtbkipibmaghejaaGreatDoor

/-
  The contracts of Same of two checkpoints: package check's, and the reference's.
-/
namespace Go.Proofs.YtbkipibmaghejaaGreatDoor
open Go.RowKit
open Go.Proofs

theorem hsame_b (v1 v2 : Value) (bs cs : List Int) (b : Bool) (hb : b = decide (bs = cs)) (h1B : Bs bs) (h2B : Bs cs) (w : World) (h1 : Sl w v1 bs) (h2 : Sl w v2 cs) :
    Calls Tryz.prog 47 #[v1, v2] w fun e w' => e = .returned (.bool b) ∧ w' = w := by
  refine (samehash_any v1 v2 bs cs _ _ rfl rfl w h1 h2).mono ?_
  rintro e w' ⟨rfl, hw⟩
  rw [str_beq bs cs h1B h2B, ← hb]
  exact ⟨rfl, hw⟩

set_option maxRecDepth 100000 in
set_option maxHeartbeats 1000000 in
theorem cksame_any (v1 v2 : Value) (n m : Int) (r t : List Int) (b : Bool) (hb : b = decide (n = m ∧ r = t)) (w : World) (hV1 : CkV w v1 n r) (hV2 : CkV w v2 m t) :
    Calls Tryz.prog 18 #[v1, v2] w fun e w' => e = .returned (.bool b) ∧ Kp [] w w' := by
  obtain ⟨af, nf, cf, rfl, hF, hB1⟩ := hV1
  obtain ⟨bf, kf, ef, rfl, hF2, hB2⟩ := hV2
  obtain ⟨o1, ho1⟩ : ∃ o : Obj, o = (.cells #[.int .i64 n, .slice af nf cf] 25) := ⟨_, rfl⟩
  obtain ⟨o2, ho2⟩ : ∃ o : Obj, o = (.cells #[.int .i64 m, .slice bf kf ef] 25) := ⟨_, rfl⟩
  have K1 : Kp [] w ((w.alloc o1).alloc o2) := ((Kp.refl [] w).alloc o1).alloc o2
  obtain ⟨c, hc⟩ : ∃ c, c = decide (r = t) := ⟨_, rfl⟩
  have HF := hide (hsame_b _ _ r t c hc hB1 hB2 _ (hF.kept K1 (by simp)) (hF2.kept K1 (by simp)))
  rw [ho1, ho2] at HF K1
  have HK := hide K1
  have HB := hide hb
  have HC := hide hc
  clear hb hF hF2 hB1 hB2 ho1 ho2 K1 hc
  by_cases c1 : n = m
  · subst c1
    go_enter Tryz.func18, Tryz.ntmps18
    go_wp2_with fail
    refine (unhide HF).mono ?_
    rintro ee w9 ⟨rfl, hw⟩
    subst w9
    clear HF
    go_wp2_with fail
    go_ret
    exact ⟨by rw [unhide HB, unhide HC]; simp, unhide HK⟩
  · have c2 : (n == m) = false := beq_eq_false_iff_ne.2 c1
    go_enter Tryz.func18, Tryz.ntmps18
    go_wp2_with fail
    go_ret
    exact ⟨by rw [unhide HB]; simp [c1], unhide HK⟩

set_option maxRecDepth 100000 in
set_option maxHeartbeats 1000000 in
theorem rcksame_any (v1 v2 : Value) (n m : Int) (r t : List Int) (b : Bool) (hb : b = decide (n = m ∧ r = t)) (w : World) (hV1 : CkV w v1 n r) (hV2 : CkV w v2 m t) :
    Calls Tryz.prog 19 #[v1, v2] w fun e w' => e = .returned (.bool b) ∧ Kp [] w w' := by
  obtain ⟨af, nf, cf, rfl, hF, hB1⟩ := hV1
  obtain ⟨bf, kf, ef, rfl, hF2, hB2⟩ := hV2
  obtain ⟨o1, ho1⟩ : ∃ o : Obj, o = (.cells #[.int .i64 n, .slice af nf cf] 25) := ⟨_, rfl⟩
  obtain ⟨o2, ho2⟩ : ∃ o : Obj, o = (.cells #[.int .i64 m, .slice bf kf ef] 25) := ⟨_, rfl⟩
  have K1 : Kp [] w ((w.alloc o1).alloc o2) := ((Kp.refl [] w).alloc o1).alloc o2
  have q1 := (hF.kept K1 (by simp)).conv (P := Tryz.prog) 23 9 5 Tryz.underlying23 Tryz.underlying5 Tryz.underlying9
  have q2 := (hF2.kept K1 (by simp)).conv (P := Tryz.prog) 23 9 5 Tryz.underlying23 Tryz.underlying5 Tryz.underlying9
  obtain ⟨S1, hS1⟩ : ∃ S, S = strOfNums r := ⟨_, rfl⟩
  obtain ⟨S2, hS2⟩ : ∃ S, S = strOfNums t := ⟨_, rfl⟩
  have HSS : Hid ((S1.toList == S2.toList) = decide (r = t)) := by rw [hS1, hS2]; exact str_beq r t hB1 hB2
  rw [← hS1] at q1
  rw [← hS2] at q2
  rw [ho1, ho2] at q1 q2 K1
  have HK := hide K1
  have HB := hide hb
  clear hb hF hF2 hB1 hB2 ho1 ho2 K1 hS1 hS2
  by_cases c1 : n = m
  · subst c1
    go_enter Tryz.func19, Tryz.ntmps19
    go_wp2_with fail
    go_ret
    exact ⟨by rw [unhide HB, unhide HSS]; simp, unhide HK⟩
  · have c2 : (n == m) = false := beq_eq_false_iff_ne.2 c1
    go_enter Tryz.func19, Tryz.ntmps19
    go_wp2_with fail
    go_ret
    exact ⟨by rw [unhide HB]; simp [c1], unhide HK⟩
end Go.Proofs.YtbkipibmaghejaaGreatDoor
