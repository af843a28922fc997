/-
  The contract of the reference's Sign.
-/
import Derived.Test.YtacfciimialobaaDoorORefSec
namespace Go.Proofs.YtacfciimialobaaDoor
open Go.RowKit

theorem acc_nil (w : World) : Acc w [] (.slice none 0 0) w := ⟨[], ⟨⟨rfl, .inl ⟨rfl, rfl⟩⟩, fun x hx => by cases hx⟩, rfl, Kp.refl _ _⟩

set_option maxRecDepth 100000 in
set_option maxHeartbeats 2000000 in
theorem refsign_any (vb : Value) (bs : List Int) (key : Int) (vm : Value) (ms : List Int) (d : Int) (hd : d = digP ms) (w : World) (hS : Sl w vb bs) (hB : Bs bs) (hl : bs.length ≤ 1000) (hM : Sl w vm ms) (hMB : Bs ms) (hml : ms.length ≤ 1000) :
    Calls Tryd.prog 11 #[vb, .int .i64 key, vm] w fun e w' => ∃ ao m c, e = .returned (.slice ao m c) ∧ Acc w (sgnP bs key d) (.slice ao m c) w' := by
  have h0 : 0 ≤ d := by rw [hd]; exact (digP_bd ms).1
  have HD := hide (refdigest_any vm ms d hd w hM hMB (by omega))
  have HS := hide hS
  have HB := hide hB
  obtain ⟨ab, cb, hvb, _⟩ := hS
  obtain ⟨nb, hnb⟩ : ∃ n, n = bs.length := ⟨_, rfl⟩
  rw [← hnb] at hvb
  subst hvb
  obtain ⟨am, cm, hvm, _⟩ := hM
  obtain ⟨nm, hnm⟩ : ∃ n, n = ms.length := ⟨_, rfl⟩
  rw [← hnm] at hvm
  subst hvm
  clear hB hnb hnm hMB hd
  go_enter Tryd.func11, Tryd.ntmps11
  go_wp2_with fail
  refine (unhide HD).mono ?_
  rintro ee w2 ⟨rfl, K2⟩
  have A2 : Hid (Acc w [] (.slice none 0 0) w2) := (acc_nil w).mid K2
  clear HD K2
  go_wp2_with fail
  go_loopw [8, 9] (fun v i wr => ∃ (k m cc : Nat) (ao : Option Addr), k ≤ 32 ∧ v = .slice ao m cc ∧ i = .int .i64 k ∧ Acc w (ptsP bs key (digC d) (2 * k)) v wr) (fun _ i _ => 32 - (intOf i).toNat)
  case atStart => exact ⟨0, 0, 0, none, by omega, rfl, rfl, unhide A2⟩
  case round =>
    obtain ⟨k, m, cc, ao, hk, rfl, rfl, Ar⟩ := hrel
    clear A2
    have HA := hide Ar
    clear Ar
    by_cases hlt : k < 32
    · have hlt2 : (k : Int) < 32 := by omega
      have hj1 : (k : Int) ≤ 31 := by omega
      have hj2 : (31 - (k : Int)).toNat = 31 - k := by omega
      have hd0 : 0 ≤ d / 2 ^ (31 - k) := Int.ediv_nonneg h0 (Int.le_of_lt (Int.pow_pos (by omega)))
      have ha := and_one _ hd0
      rw [← sd_val] at ha
      obtain ⟨t, ht⟩ : ∃ t, t = sdP d k := ⟨_, rfl⟩
      rw [← ht] at ha
      have hC0 : Hid (digC d k 0 = (t == 0)) := by rw [ht]; rfl
      have hC1 : Hid (digC d k 1 = (t == 1)) := by rw [ht]; rfl
      have htl : t < 2 := by rw [ht]; exact sdP_lt d k
      clear ht hd0
      obtain ⟨wo, hwo⟩ : ∃ wo, wo = wr := ⟨_, rfl⟩
      subst hwo
      go_wp2_with fail
      go_loopw [8, 10] (fun v i wi => ∃ (s m cc : Nat) (ao : Option Addr), s ≤ 2 ∧ v = .slice ao m cc ∧ i = .int .i64 s ∧ Acc w (ptsP bs key (digC d) (2 * k + s)) v wi) (fun _ i _ => 2 - (intOf i).toNat)
      case atStart => exact ⟨0, m, cc, ao, by omega, rfl, rfl, unhide HA⟩
      case round =>
        clear HA
        obtain ⟨s, m2, cc2, ao2, hs, rfl, rfl, Ai⟩ := hrel
        have HI := hide Ai
        clear Ai
        obtain ⟨wi, hwi⟩ : ∃ wi, wi = wr := ⟨_, rfl⟩
        subst hwi
        rcases (by omega : s = 0 ∨ s = 1 ∨ s = 2) with rfl | rfl | rfl
        · rcases (by omega : t = 0 ∨ t = 1) with rfl | rfl
          · have hr0 := ptP_at bs key (digC d) k 0 (by omega)
            rw [show digC d k 0 = true from unhide hC0] at hr0
            obtain ⟨r, hr⟩ : ∃ r, r = ptP bs key (digC d) (2 * k + 0) := ⟨_, rfl⟩
            have HRB : Hid (Bs r) := by rw [hr]; exact ptP_bs _ _ _ _
            have HE : Hid (ptsP bs key (digC d) (2 * k + 0 + 1) = ptsP bs key (digC d) (2 * k + 0) ++ [r]) := by rw [hr]; exact ptsP_succ _ _ _ _
            have HLN : Hid ((ptsP bs key (digC d) (2 * k + 0)).length ≤ 1000000) := by rw [ptsP_len]; show 2 * k + 0 ≤ 1000000; omega
            rw [← hr] at hr0
            have HC := hide (refsecret_any (.slice ab nb cb) bs key k 0 r hr0 wi ((unhide HS).kept (unhide HI).kp (by simp)) (unhide HB) hl)
            clear hr hr0
            go_wp2_with fail
            refine (unhide HC).mono ?_
            rintro ee w4 ⟨a4, m4, c4, rfl, R4, K4⟩
            have HR4 := hide R4
            have HK4 := hide K4
            clear R4 K4 HC
            go_wp2_with (at_builtin; refine wpList_acc rfl (.tmp 30) (.tmp 36) rfl _ _ rfl (unhide HI) (unhide HLN) _ r (unhide HK4) (unhide HR4) (unhide HRB) rfl ?_; intro ao5 m5 c5 w5 A5)
            go_roundw
            case rel => exact ⟨0 + 1, m5, c5, ao5, by omega, rfl, by go_num, by have e := unhide HE; rw [← e] at A5; exact A5⟩
            case measure => simp [intOf]
          · have hr0 := ptP_at bs key (digC d) k 0 (by omega)
            rw [show digC d k 0 = false from unhide hC0] at hr0
            obtain ⟨r, hr⟩ : ∃ r, r = ptP bs key (digC d) (2 * k + 0) := ⟨_, rfl⟩
            have HRB : Hid (Bs r) := by rw [hr]; exact ptP_bs _ _ _ _
            have HE : Hid (ptsP bs key (digC d) (2 * k + 0 + 1) = ptsP bs key (digC d) (2 * k + 0) ++ [r]) := by rw [hr]; exact ptsP_succ _ _ _ _
            have HLN : Hid ((ptsP bs key (digC d) (2 * k + 0)).length ≤ 1000000) := by rw [ptsP_len]; show 2 * k + 0 ≤ 1000000; omega
            rw [← hr] at hr0
            have HC := hide (refshown_any (.slice ab nb cb) bs key k 0 r hr0 wi ((unhide HS).kept (unhide HI).kp (by simp)) (unhide HB) hl)
            clear hr hr0
            go_wp2_with fail
            refine (unhide HC).mono ?_
            rintro ee w4 ⟨a4, m4, c4, rfl, R4, K4⟩
            have HR4 := hide R4
            have HK4 := hide K4
            clear R4 K4 HC
            go_wp2_with (at_builtin; refine wpList_acc rfl (.tmp 38) (.tmp 44) rfl _ _ rfl (unhide HI) (unhide HLN) _ r (unhide HK4) (unhide HR4) (unhide HRB) rfl ?_; intro ao5 m5 c5 w5 A5)
            go_roundw
            case rel => exact ⟨0 + 1, m5, c5, ao5, by omega, rfl, by go_num, by have e := unhide HE; rw [← e] at A5; exact A5⟩
            case measure => simp [intOf]
        · rcases (by omega : t = 0 ∨ t = 1) with rfl | rfl
          · have hr0 := ptP_at bs key (digC d) k 1 (by omega)
            rw [show digC d k 1 = false from unhide hC1] at hr0
            obtain ⟨r, hr⟩ : ∃ r, r = ptP bs key (digC d) (2 * k + 1) := ⟨_, rfl⟩
            have HRB : Hid (Bs r) := by rw [hr]; exact ptP_bs _ _ _ _
            have HE : Hid (ptsP bs key (digC d) (2 * k + 1 + 1) = ptsP bs key (digC d) (2 * k + 1) ++ [r]) := by rw [hr]; exact ptsP_succ _ _ _ _
            have HLN : Hid ((ptsP bs key (digC d) (2 * k + 1)).length ≤ 1000000) := by rw [ptsP_len]; show 2 * k + 1 ≤ 1000000; omega
            rw [← hr] at hr0
            have HC := hide (refshown_any (.slice ab nb cb) bs key k 1 r hr0 wi ((unhide HS).kept (unhide HI).kp (by simp)) (unhide HB) hl)
            clear hr hr0
            go_wp2_with fail
            refine (unhide HC).mono ?_
            rintro ee w4 ⟨a4, m4, c4, rfl, R4, K4⟩
            have HR4 := hide R4
            have HK4 := hide K4
            clear R4 K4 HC
            go_wp2_with (at_builtin; refine wpList_acc rfl (.tmp 38) (.tmp 44) rfl _ _ rfl (unhide HI) (unhide HLN) _ r (unhide HK4) (unhide HR4) (unhide HRB) rfl ?_; intro ao5 m5 c5 w5 A5)
            go_roundw
            case rel => exact ⟨1 + 1, m5, c5, ao5, by omega, rfl, by go_num, by have e := unhide HE; rw [← e] at A5; exact A5⟩
            case measure => simp [intOf]
          · have hr0 := ptP_at bs key (digC d) k 1 (by omega)
            rw [show digC d k 1 = true from unhide hC1] at hr0
            obtain ⟨r, hr⟩ : ∃ r, r = ptP bs key (digC d) (2 * k + 1) := ⟨_, rfl⟩
            have HRB : Hid (Bs r) := by rw [hr]; exact ptP_bs _ _ _ _
            have HE : Hid (ptsP bs key (digC d) (2 * k + 1 + 1) = ptsP bs key (digC d) (2 * k + 1) ++ [r]) := by rw [hr]; exact ptsP_succ _ _ _ _
            have HLN : Hid ((ptsP bs key (digC d) (2 * k + 1)).length ≤ 1000000) := by rw [ptsP_len]; show 2 * k + 1 ≤ 1000000; omega
            rw [← hr] at hr0
            have HC := hide (refsecret_any (.slice ab nb cb) bs key k 1 r hr0 wi ((unhide HS).kept (unhide HI).kp (by simp)) (unhide HB) hl)
            clear hr hr0
            go_wp2_with fail
            refine (unhide HC).mono ?_
            rintro ee w4 ⟨a4, m4, c4, rfl, R4, K4⟩
            have HR4 := hide R4
            have HK4 := hide K4
            clear R4 K4 HC
            go_wp2_with (at_builtin; refine wpList_acc rfl (.tmp 30) (.tmp 36) rfl _ _ rfl (unhide HI) (unhide HLN) _ r (unhide HK4) (unhide HR4) (unhide HRB) rfl ?_; intro ao5 m5 c5 w5 A5)
            go_roundw
            case rel => exact ⟨1 + 1, m5, c5, ao5, by omega, rfl, by go_num, by have e := unhide HE; rw [← e] at A5; exact A5⟩
            case measure => simp [intOf]
        · go_wp2_with fail
          go_roundw
          case rel => exact ⟨k + 1, m2, cc2, ao2, by omega, rfl, by go_num, unhide HI⟩
          case measure => simp [intOf]; omega
    · obtain rfl : k = 32 := by omega
      go_wp2_with fail
      go_ret
      exact ⟨ao, m, cc, rfl, unhide HA⟩
end Go.Proofs.YtacfciimialobaaDoor
