/-
  The contract of the reference's Digest.
-/
import Derived.Test.YtdioaohejoflcaaDoorKODigest
import Derived.Test.YtdioaohejoflcaaDoorKHRefTag
namespace Go.Proofs.YtdioaohejoflcaaDoor
open Go.RowKit

set_option maxRecDepth 100000 in
set_option maxHeartbeats 1000000 in
theorem refdigest_any (vb : Value) (bs : List Int) (d : Int) (hd : d = digP bs) (w : World) (hS : Sl w vb bs) (hB : Bs bs) (hl : bs.length ≤ 1000000) :
    Calls Tryd.prog 62 #[vb] w fun e w' => e = .returned (.int .u32 d) ∧ Kp [] w w' := by
  have HL := hide (lists1 hS hB)
  obtain ⟨ab, cb, hvb, _⟩ := hS
  obtain ⟨nb, hnb⟩ : ∃ n, n = bs.length := ⟨_, rfl⟩
  rw [← hnb] at hvb
  subst hvb
  obtain ⟨r, hr⟩ : ∃ r, r = sha (13 :: cat [(Value.slice ab nb cb, bs)]) := ⟨_, rfl⟩
  have HR := hide hr
  have HRL : Hid (r.length = 32) := by rw [hr]; exact sha_len _
  have HRB : Bs r := by rw [hr]; exact sha_bs _
  have HRD : d = val (r.take 4) := by rw [hr, hd, cat1]; rfl
  obtain ⟨x0, x1, x2, x3, tl, hrx⟩ : ∃ x0 x1 x2 x3 tl, r = x0 :: x1 :: x2 :: x3 :: tl := by
    match r, unhide HRL with
    | x0 :: x1 :: x2 :: x3 :: tl, _ => exact ⟨_, _, _, _, _, rfl⟩
  have b0 : 0 ≤ x0 ∧ x0 ≤ 255 := HRB x0 (by simp [hrx])
  have b1 : 0 ≤ x1 ∧ x1 ≤ 255 := HRB x1 (by simp [hrx])
  have b2 : 0 ≤ x2 ∧ x2 ≤ 255 := HRB x2 (by simp [hrx])
  have b3 : 0 ≤ x3 ∧ x3 ≤ 255 := HRB x3 (by simp [hrx])
  have HW : Hid (wd x0 x1 x2 x3 = d) := by rw [wd_val _ _ _ _ b0 b1 b2 b3, HRD, hrx]; rfl
  have HX := hide hrx
  obtain ⟨y0, y0'⟩ := b0
  obtain ⟨y1, y1'⟩ := b1
  obtain ⟨y2, y2'⟩ := b2
  obtain ⟨y3, y3'⟩ := b3
  clear hd hr hnb hB HRB HRD hrx
  go_enter Tryd.func62, Tryd.ntmps62
  go_wp2_with (go_at_call 29; refine (reftagged_any 13 _ _ r (unhide HR) _ (unhide HL) (by omega) (by omega) (by simp) (by simpa using hl)).mono ?_; rintro ee w2 ⟨ao2, m2, c2, rfl, R2, K2⟩; obtain rfl : m2 = 32 := R2.len.trans (unhide HRL))
  obtain ⟨b2, o2, rfl, hnn, hcell⟩ := R2.sl.spot (by omega)
  clear hnn
  have HK := hide (((Kp.refl [] w).alloc (.cells #[.slice ab nb cb] 24)).trans K2)
  have hq : ∀ k x, (x0 :: x1 :: x2 :: x3 :: tl)[k]? = some x → w2.cell? ⟨b2, o2 + k, none⟩ = some (.int .u8 x) := fun k x hx => by
    have e := unhide HX
    have hk : k < r.length := by rw [e]; exact (List.getElem?_eq_some_iff.1 hx).1
    rw [hcell k hk]
    have : r[k] = x := by
      have h1 : r[k]? = some x := by rw [e]; exact hx
      rw [List.getElem?_eq_getElem hk] at h1
      exact Option.some.inj h1
    rw [this]
  have q0 := hq 0 x0 rfl
  have q1 := hq 1 x1 rfl
  have q2 := hq 2 x2 rfl
  have q3 := hq 3 x3 rfl
  rw [Nat.add_zero] at q0
  clear R2 K2 hcell HL HR HX HRL hq
  go_quiet (fail)
  go_wp2_with fail
  go_ret
  exact ⟨congrArg (fun x => Ending.returned (Value.int .u32 x)) (unhide HW), (unhide HK).trans (kp_drewN _ _)⟩
end Go.Proofs.YtdioaohejoflcaaDoor
