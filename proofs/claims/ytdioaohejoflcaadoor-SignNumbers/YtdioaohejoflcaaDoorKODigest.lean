/-
  The contracts of Digest, of the program and of the reference.
-/
import Derived.Test.YtdioaohejoflcaaDoorKOSpec
import Derived.Test.YtdioaohejoflcaaDoorKHRoomy
namespace Go.Proofs.YtdioaohejoflcaaDoor
open Go.RowKit

theorem lists1 {w : World} {v : Value} {bs : List Int} (h : Sl w v bs) (hB : Bs bs) : Lists (w.alloc (.cells #[v] 24)) (.slice (some ⟨w.heap.size, 0, none⟩) 1 1) [(v, bs)] :=
  lists_of_block (l := [(v, bs)]) (t := 24) (fr := (0, 0)) (heap_alloc_new w _) (by simp) (fun x hx => by
    obtain rfl : x = (v, bs) := by simpa using hx
    exact ⟨h.kept ((Kp.refl [] w).alloc _) (by simp), hB⟩)
theorem cat1 (v : Value) (bs : List Int) : cat [(v, bs)] = bs := by simp [cat]
theorem val_take_succ (cs : List Int) (k : Nat) (h : k < cs.length) : val (cs.take (k + 1)) = val (cs.take k) * 256 + cs[k] := by
  rw [List.take_succ_eq_append_getElem h, val_snoc]
theorem val_small (cs : List Int) (hB : Bs cs) (h : cs.length ≤ 3) : val cs * 256 ≤ 4294967295 := by
  have h1 := val_bd cs hB
  have h2 : (256 : Nat) ^ cs.length ≤ 256 ^ 3 := Nat.pow_le_pow_right (by omega) h
  have h3 : (256 : Int) ^ cs.length = ((256 ^ cs.length : Nat) : Int) := by simp
  omega

set_option maxRecDepth 100000 in
set_option maxHeartbeats 1000000 in
theorem digest_any (vb : Value) (bs : List Int) (d : Int) (hd : d = digP bs) (w : World) (hS : Sl w vb bs) (hB : Bs bs) (hl : bs.length ≤ 1000000) (hG : Gl w) :
    Calls Tryd.prog 58 #[vb] w fun e w' => e = .returned (.int .u32 d) ∧ Kp [] w w' := by
  have HL := hide (lists1 hS hB)
  have HG := hide hG
  have HD := hide hd
  obtain ⟨ab, cb, hvb, _⟩ := hS
  obtain ⟨nb, hnb⟩ : ∃ n, n = bs.length := ⟨_, rfl⟩
  rw [← hnb] at hvb
  subst hvb
  obtain ⟨r, hr⟩ : ∃ r, r = sha (13 :: cat [(Value.slice ab nb cb, bs)]) := ⟨_, rfl⟩
  have HR := hide hr
  have HRL : Hid (r.length = 32) := by rw [hr]; exact sha_len _
  have HRB : Hid (Bs r) := by rw [hr]; exact sha_bs _
  have HRD : Hid (d = val (r.take 4)) := by rw [hr, hd, cat1]; rfl
  clear hG hd hr hnb hB
  go_enter Tryd.func58, Tryd.ntmps58
  go_wp2_with (go_at_call 79; refine (tagged_any 13 _ _ r (unhide HR) _ (unhide HL) (by omega) (by omega) (by simp) (by simpa using hl) ((unhide HG).kept ((Kp.refl [] w).alloc _) (by simp))).mono ?_; rintro ee w2 ⟨ao2, m2, c2, rfl, R2, K2⟩; obtain rfl : m2 = 32 := R2.len.trans (unhide HRL); have hc2 : 32 ≤ c2 := (by obtain ⟨_, _, e, h', _⟩ := R2.sl; injection e with e1 e2 e3; have := unhide HRL; omega); have hc3 : (4 : Int) ≤ (c2 : Int) := by omega)
  obtain ⟨a2, c2', e2, hc4, hc5, hcell⟩ := R2.sl.at (unhide HRL) (by omega)
  injection e2 with e3 e4 e5
  subst e3
  subst e5
  have HK := hide (((Kp.refl [] w).alloc (.cells #[.slice ab nb cb] 24)).trans K2)
  have HC := hide hcell
  clear R2 K2 hcell HL HR
  go_loopw [3, 11] (fun x i wr => ∃ k : Nat, k ≤ 4 ∧ i = .int .i64 k ∧ x = .int .u32 (val (r.take k)) ∧ wr = w2) (fun _ i _ => 4 - (intOf i).toNat)
  case atStart => exact ⟨0, by omega, rfl, rfl, rfl⟩
  case round =>
    obtain ⟨k, hk, rfl, rfl, hw⟩ := hrel
    subst wr
    by_cases hlt : k < 4
    · have hlt2 : (k : Int) < 4 := by omega
      have hc := unhide HC k (by omega)
      have hkr : k < r.length := by have := unhide HRL; omega
      have hb1 := unhide HRB r[k] (List.getElem_mem hkr)
      have hvb := val_bd (r.take k) ((unhide HRB).take k)
      have hv1 := val_small (r.take k) ((unhide HRB).take k) (by simp; omega)
      rw [show r.getD k 0 = r[k] by simp [List.getElem?_eq_getElem hkr]] at hc
      obtain ⟨x, hx⟩ : ∃ x, x = val (r.take k) := ⟨_, rfl⟩
      obtain ⟨y, hy⟩ : ∃ y, y = r[k] := ⟨_, rfl⟩
      have HX : Hid (val (r.take (k + 1)) = x * 256 + y) := by rw [hx, hy]; exact val_take_succ r k hkr
      rw [← hx] at hvb hv1
      rw [← hx]
      rw [← hy] at hc hb1
      obtain ⟨hb1, hb2⟩ := hb1
      obtain ⟨hx0, _⟩ := hvb
      have hor := bits_or_byte x y hx0 hv1 hb1 hb2
      clear hx hy
      go_wp2_with fail
      go_roundw
      case rel => exact ⟨k + 1, by omega, by go_num, by rw [unhide HX], by trivial⟩
      case measure => simp [intOf]; omega
    · obtain rfl : k = 4 := by omega
      go_wp2_with fail
      go_ret
      exact ⟨by rw [unhide HRD]; rfl, unhide HK⟩
end Go.Proofs.YtdioaohejoflcaaDoor
