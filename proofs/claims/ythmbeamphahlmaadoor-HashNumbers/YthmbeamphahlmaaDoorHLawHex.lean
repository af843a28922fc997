/-
  The contract of the law package's hex.
-/
import Derived.Test.YthmbeamphahlmaaDoorHHex
namespace Go.Proofs.YthmbeamphahlmaaDoor
open Go.RowKit

theorem str_app (a b : List Int) : strOfNums a ++ strOfNums b = strOfNums (a ++ b) := by
  refine ByteArray.ext ?_
  rw [ByteArray.data_append]
  refine Array.ext' ?_
  have h := fun l => strOfNums_data l
  simp only [Array.toList_append]
  rw [h, h, h, List.map_append]
theorem sg_cut (i : Int) (h0 : 0 ≤ i) (h1 : i < 16) : (⟨#[48, 49, 50, 51, 52, 53, 54, 55, 56, 57, 97, 98, 99, 100, 101, 102]⟩ : ByteArray).extract i.toNat (i + 1).toNat = strOfNums [sg i] := by
  obtain ⟨m, rfl⟩ := Int.eq_ofNat_of_zero_le h0
  have h : ∀ m ∈ List.range 16, (⟨#[48, 49, 50, 51, 52, 53, 54, 55, 56, 57, 97, 98, 99, 100, 101, 102]⟩ : ByteArray).extract ((m : Int)).toNat ((m : Int) + 1).toNat = strOfNums [sg (m : Int)] := by decide +kernel
  exact h m (by simp; omega)
set_option maxRecDepth 100000 in
set_option maxHeartbeats 1000000 in
theorem lawhex_any (vb : Value) (bs : List Int) (w : World) (hS : Sl w vb bs) (hB : Bs bs) (hl : bs.length ≤ 1000000) :
    Calls Tryd.prog 13 #[vb] w fun e w' => e = .returned (.string (strOfNums (hexs bs))) ∧ Kp [] w w' := by
  obtain ⟨ab, cb, rfl, h1, h2, h3, h4⟩ := hS
  obtain ⟨N, hN⟩ : ∃ N, N = bs.length := ⟨_, rfl⟩
  have HC : Hid (∀ a, ab = some a → ∀ j u, (bs.map (Value.int .u8))[j]? = some u → w.cell? (a.add j) = some u) := h4
  rw [← hN] at h1 hl ⊢
  have HN := hide hN
  have hN2 : (N : Int) ≤ 1000000 := by omega
  clear hN h4
  go_enter Tryd.func13, Tryd.ntmps13
  go_wp2_with fail
  go_loopw [3, 4] (fun v i wr => ∃ (k : Nat), k ≤ N ∧ v = .string (strOfNums (hexs (bs.take k))) ∧ i = .int .i64 k ∧ Kp [] w wr) (fun _ i _ => N - (intOf i).toNat)
  case atStart => exact ⟨0, by omega, rfl, rfl, Kp.refl _ _⟩
  case round =>
    obtain ⟨k, hk, rfl, rfl, Kr⟩ := hrel
    by_cases hlt : k < N
    · have hlt2 : (k : Int) < (N : Int) := by omega
      have hkb : k < bs.length := by have := unhide HN; omega
      cases ab with
      | none => have := h3 rfl; omega
      | some ab =>
      have hcell := Kr.cell (unhide HC ab rfl k (.int .u8 (bs.getD k 0)) (by simp [List.getElem?_eq_getElem hkb])) (by simp)
      have hsn := hexs_snoc bs k hkb
      have hxb := hB.at k
      obtain ⟨x, hx⟩ : ∃ x, x = bs.getD k 0 := ⟨_, rfl⟩
      rw [← hx] at hcell hsn hxb
      obtain ⟨hx0, hx1⟩ := hxb
      have hand := and15 x hx0 hx1
      have hd1 : 0 ≤ x / 16 := by omega
      have hd2 : x / 16 < 16 := by omega
      have hd3 : 0 ≤ x % 16 := by omega
      have hd4 : x % 16 < 16 := by omega
      have HS := hide hsn
      obtain ⟨S, hSS⟩ : ∃ S, S = strOfNums (hexs (bs.take k)) := ⟨_, rfl⟩
      simp only [← hSS]
      have HSS := hide hSS
      have hSz : S.size ≤ 2000000 := by rw [hSS, strOfNums_size, hexs_len]; simp; omega
      have e1 : (⟨#[48, 49, 50, 51, 52, 53, 54, 55, 56, 57, 97, 98, 99, 100, 101, 102]⟩ : ByteArray).extract (x / 16).toNat (x / 16 + 1).toNat = strOfNums [sg (x / 16)] := sg_cut (x / 16) hd1 hd2
      have e2 : (⟨#[48, 49, 50, 51, 52, 53, 54, 55, 56, 57, 97, 98, 99, 100, 101, 102]⟩ : ByteArray).extract (x % 16).toNat (x % 16 + 1).toNat = strOfNums [sg (x % 16)] := sg_cut (x % 16) hd3 hd4
      have z1 : (strOfNums [sg (x / 16)]).size = 1 := strOfNums_size _
      have z2 : (strOfNums [sg (x % 16)]).size = 1 := strOfNums_size _
      obtain ⟨T1, hT1⟩ : ∃ T, T = strOfNums [sg (x / 16)] := ⟨_, rfl⟩
      obtain ⟨T2, hT2⟩ : ∃ T, T = strOfNums [sg (x % 16)] := ⟨_, rfl⟩
      rw [← hT1] at e1 z1
      rw [← hT2] at e2 z2
      have HT1 := hide hT1
      have HT2 := hide hT2
      have hz3 : (S ++ T1).size ≤ 2000001 := by rw [ByteArray.size_append]; omega
      clear hT1 hT2
      have hKr := hide Kr
      clear hx hsn Kr hSS
      go_wp2_with fail
      refine region_read Tryd.mixed (by kernel_rfl) ?_
      repeat (first | go_big_quiet_skip | (go_big_quiet_want; go_big_quiet_op; go_big_quiet_on))
      refine wpQuiet_nil ?_
      have hfin : S ++ T1 ++ T2 = strOfNums (hexs (bs.take (k + 1))) := by
        rw [unhide HS, unhide HSS, unhide HT1, unhide HT2, str_app, str_app, List.append_assoc]
        rfl
      have HF := hide hfin
      clear hfin
      go_wp2_with fail
      go_roundw
      case rel => exact ⟨k + 1, by omega, by rw [unhide HF], by go_num, (unhide hKr).drew⟩
      case measure => simp [intOf]; omega
    · obtain rfl : k = N := by omega
      rw [List.take_of_length_le (by have := unhide HN; omega)]
      go_wp2_with fail
      go_ret
      exact ⟨rfl, Kr⟩
end Go.Proofs.YthmbeamphahlmaaDoor
