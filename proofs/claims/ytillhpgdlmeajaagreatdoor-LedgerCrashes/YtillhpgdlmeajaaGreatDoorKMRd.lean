/-
  The contracts of the reference reader's Bytes and End.
-/
import Derived.Test.YtillhpgdlmeajaaGreatDoorKSRefReader
import Derived.Test.YtillhpgdlmeajaaGreatDoorKMWire
namespace Go.Proofs.YtillhpgdlmeajaaGreatDoor
open Go.RowKit
open Go.Proofs

set_option maxHeartbeats 400000 in
theorem rbyt_any (q : Nat) (v : Value) (i : Nat) (bad : Bool) (B : List Int) (most : Int) (w : World) (hR : RR w q v i bad B) (hb : B.length ≤ 140737488355328) (hB : Bs B) (hm0 : 0 ≤ most) :
    Calls Tryz.prog 64 #[.pointer (some ⟨q, 0, none⟩), .int .i64 most] w fun e w' => ∃ ao m c, e = .returned (.slice ao m c) ∧ Own w w' (.slice ao m c) (tkb bad (rest i bad B) most).1 ∧ RLeft w q v B (tkb bad (rest i bad B) most).2 w' := by
  have hv := val_two (tk bad (rest i bad B) 2).1 (tk_bs1 (rest_bs hB)) (@tk_len1 bad (rest i bad B) 2)
  obtain ⟨t, ht⟩ : ∃ t, t = tk bad (rest i bad B) 2 := ⟨_, rfl⟩
  have h2 : (tkb bad (rest i bad B) most) = if most < val t.1 then ([], true, []) else tk t.2.1 t.2.2 (val t.1) := by
    unfold tkb; rw [ht, show max most 0 = most from by omega]
  rw [← ht] at hv
  have HT := hide ht
  obtain ⟨x, hx⟩ : ∃ x, x = val t.1 := ⟨_, rfl⟩
  have hw64 : IntKind.i64.wrap x = x := by rw [hx]; simp [IntKind.wrap, IntKind.signed, IntKind.bits]; omega
  rw [← hx] at hv h2
  have HX := hide hx
  clear ht hx
  obtain ⟨hv0, hv1⟩ := hv
  by_cases hm : most < x
  · rw [if_pos hm] at h2
    rw [h2]
    have hx0 : 0 < x := by omega
    clear h2
    go_enter Tryz.func64, Tryz.ntmps64
    go_wp2_with fail
    refine (rnumb_any q v i bad B 2 _ hR hb (by omega) hB).mono ?_
    rintro e w1 ⟨rfl, hL⟩
    rw [show ((2 : Nat) : Int) = 2 from rfl, ← unhide HT, ← unhide HX]
    obtain ⟨j, bad', r1, _, k1⟩ := hL
    have hc2 := (cell_of_three r1.1).2.2
    have hf2 := free_of_two r1.1 2
    have hB2 := rr_bad r1
    go_wp2_with fail
    refine (rraw_any q v j true B x _ hB2.1 hb (by omega)).mono ?_
    have ht2 : tk true (rest j true B) x = ([], true, []) := by
      show tk true [] x = _
      unfold tk; split <;> simp
    rw [ht2]
    rintro e w3 ⟨ao, m, c, rfl, hO, hL3⟩
    go_wp2_with fail
    go_ret
    obtain ⟨j3, bad3, r3, e3, k3⟩ := hL3
    exact ⟨ao, m, c, rfl, ⟨hO.1, fun k hk => Nat.le_trans (k1.trans hB2.2).size (hO.2 k hk)⟩, j3, bad3, r3, e3, (k1.trans hB2.2).trans k3⟩
  · rw [if_neg hm] at h2
    rw [h2]
    clear h2
    go_enter Tryz.func64, Tryz.ntmps64
    go_wp2_with fail
    refine (rnumb_any q v i bad B 2 _ hR hb (by omega) hB).mono ?_
    rintro e w1 ⟨rfl, hL⟩
    rw [show ((2 : Nat) : Int) = 2 from rfl, ← unhide HT] at hL
    rw [show ((2 : Nat) : Int) = 2 from rfl, ← unhide HT, ← unhide HX]
    obtain ⟨j, bad', r1, e1, k1⟩ := hL
    go_wp2_with fail
    refine (rraw_any q v j bad' B x _ r1 hb (by omega)).mono ?_
    rintro e w3 ⟨ao, m, c, rfl, hO, hL3⟩
    go_wp2_with fail
    go_ret
    obtain ⟨j3, bad3, r3, e3, k3⟩ := hL3
    rw [show t.2.1 = bad' from by rw [e1], show t.2.2 = rest j bad' B from by rw [e1]]
    exact ⟨ao, m, c, rfl, ⟨hO.1, fun k hk => Nat.le_trans k1.size (hO.2 k hk)⟩, j3, bad3, r3, e3, k1.trans k3⟩
theorem rend_any (q : Nat) (v : Value) (i : Nat) (bad : Bool) (B : List Int) (w : World) (hR : RR w q v i bad B) :
    Calls Tryz.prog 66 #[.pointer (some ⟨q, 0, none⟩)] w fun e w' => e = .returned (.bool (!bad && (rest i bad B).isEmpty)) ∧ ∃ n, w' = w.drewN n := by
  obtain ⟨ao, c, rfl, h1, h2, h3, h4⟩ := hR.2.1
  obtain ⟨hc0, hc1, hc2⟩ := cell_of_three hR.1
  have hi := hR.2.2.2
  clear h4 h3 hR
  cases bad with
  | true =>
    go_enter Tryz.func66, Tryz.ntmps66
    go_wp2_with fail
    go_quiet (fail)
    go_wp2_with fail
    go_ret
    exact ⟨rfl, nq, rfl⟩
  | false =>
    have hE : (B.drop i).isEmpty = ((i : Int) == (B.length : Int)) := by
      rw [Bool.eq_iff_iff]; simp; omega
    have HE : Hid ((!false && (rest i false B).isEmpty) = ((i : Int) == (B.length : Int))) := hE
    rw [HE.out]
    clear hE HE
    go_enter Tryz.func66, Tryz.ntmps66
    go_wp2_with fail
    go_quiet (fail)
    go_wp2_with fail
    go_ret
    exact ⟨rfl, nq, rfl⟩
end Go.Proofs.YtillhpgdlmeajaaGreatDoor
