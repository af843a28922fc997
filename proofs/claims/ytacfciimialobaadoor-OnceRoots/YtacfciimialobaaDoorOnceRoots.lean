/-
  The statement OnceRootsCardSaid: for all messages, lists of parts, places and numbers the law function OnceRoots returns true and leaves its arguments as they were; the table hash.roundWords starts as the program's text lays it (tied). No other condition.
-/
import Derived.Test.YtacfciimialobaaDoorOMore
import Derived.Test.YtacfciimialobaaDoorORefSign
import Derived.Test.YtacfciimialobaaDoorORefRoot
import Derived.Test.YtacfciimialobaaDoorTie
import Derived.Test.YtacfciimialobaaDoorCards
import Derived.SevenTiedAt
import Derived.Deep.CutBlock
import Derived.Deep.Cut
import Derived.Deep.CutRange
namespace Go.Proofs.YtacfciimialobaaDoor.onceRoots
open Go.ChangeShapes Go.WideShapes Go.ChangeAt Go.RowKit
open Go.Deep
open Go.Proofs.YtacfciimialobaaDoor
set_option linter.unusedVariables false

theorem Sl.below {w : World} {v : Value} {bs : List Int} (h : Sl w v bs) {g : Nat} (hv : v.ownBlock = some g) (hg : w.heap.size ≤ g) : bs = [] := by
  by_cases hb : bs = []
  · exact hb
  · obtain ⟨ao, c, rfl, h1, _, h3, h4⟩ := h
    cases ao with
    | none => exact List.eq_nil_of_length_eq_zero (by have := h3 rfl; omega)
    | some a =>
      have hpos : 0 < bs.length := List.length_pos_iff.2 hb
      have hc := h4 a rfl 0 (.int .u8 bs[0]) (by simp [List.getElem?_eq_getElem hpos])
      have hlt := World.block_lt_of_cell? _ _ hc
      rw [add_block] at hlt
      have : a.block = g := by simpa [Value.ownBlock] using hv
      omega
theorem Rooted.sl {b : Bool} {r : List Int} {base : Nat} {v : Value} {w : World} (h : Rooted b r base v w) : ∃ ao m c, v = .slice ao m c ∧ Sl w v (if b then r else []) := by
  cases b with
  | false =>
    obtain rfl : v = .slice none 0 0 := h
    exact ⟨none, 0, 0, rfl, Sl.nil w⟩
  | true =>
    obtain ⟨ao, m, c, rfl, R⟩ : ∃ ao m c, v = .slice ao m c ∧ Row w base v r := h
    exact ⟨ao, m, c, rfl, R.sl⟩

set_option maxRecDepth 100000 in
set_option maxHeartbeats 4000000 in
theorem walk (v0 : Value) (ms0 : List Int) (vp : Value) (lp : List (Value × List Int)) (va : Value) (la : List Int) (size : Int) (w : World) (hG : Gl w) (hm0 : Sl w v0 ms0) (hM0 : Bs ms0) (hLp : Lists w vp lp) (hIa : Ints w va la) (hsize : -9223372036854775808 ≤ size ∧ size ≤ 9223372036854775807) :
    Calls Tryd.prog 5 #[v0, vp, va, .int .i64 size] w fun e w' => e = .returned (.bool true) ∧ Below w.heap.size w w' := by
  have HG := hide hG
  obtain ⟨ms, hms⟩ : ∃ ms, ms = ms0.take 100 := ⟨_, rfl⟩
  have hml : ms.length ≤ 100 := by rw [hms]; simp; omega
  have HBm : Hid (Bs ms) := by rw [hms]; exact hM0.take _
  have kc := cut_any v0 ms0 100 w hm0
  rw [← hms] at kc
  have KC := hide kc
  have HC0 := hide hm0
  have HSE := hide (fun w' => seed_any size w' hsize)
  have HWS := hide (fun w' => within_any size 0 64 w' (by omega) (by omega) (by omega) hsize)
  have HLp := hide hLp
  have HIa := hide hIa
  obtain ⟨ap, cp, hvp, hlp, hcp⟩ := hLp
  obtain ⟨aa, ca, hva, hla, hba, hca⟩ := hIa
  obtain ⟨np, hnp⟩ : ∃ n, n = lp.length := ⟨_, rfl⟩
  obtain ⟨na, hna⟩ : ∃ n, n = la.length := ⟨_, rfl⟩
  rw [← hnp] at hvp hlp
  rw [← hna] at hva hla
  subst hvp
  subst hva
  have HCP := hide hcp
  have HCA := hide hca
  have HBA := hide hba
  have HNP := hide hnp
  have HNA := hide hna
  have hnpi : (np : Int) ≤ 9223372036854775807 := by omega
  have hnai : (na : Int) ≤ 9223372036854775807 := by unfold maxLen at hla; omega
  clear hG kc hm0 hM0 hms hsize hcp hca hba hnp hna
  go_enter Tryd.func5, Tryd.ntmps5
  go_wp2_with fail
  refine (unhide KC).mono ?_
  rintro ee w1 ⟨am, cm, rfl, hT2, hw⟩
  subst w1
  have C1 := hide (hT2 _ (unhide HC0))
  clear hT2 KC HC0
  obtain ⟨m, hm⟩ : ∃ m, m = ms.length := ⟨_, rfl⟩
  rw [← hm] at C1 ⊢
  clear hm
  go_wp2_with fail
  refine (unhide HSE w).mono ?_
  rintro ee w1 ⟨a1, m1, c1, sd, rfl, R1, hsl, hsb, K1⟩
  have HR1 := hide R1
  have HK1 := hide K1
  have HSB := hide hsb
  clear R1 K1 hsb HSE
  obtain ⟨d, hd⟩ : ∃ d, d = digP ms := ⟨_, rfl⟩
  have HD := hide hd
  clear hd
  go_wp2_with fail
  refine (refsign_any _ sd size _ ms d (unhide HD) w1 (unhide HR1).sl (unhide HSB) (by omega) ((unhide C1).kept (unhide HK1) (by simp)) (unhide HBm) (by omega)).mono ?_
  rintro ee w3 ⟨a3, m3, c3, rfl, A3⟩
  obtain rfl : m3 = 64 := by rw [A3.cap, sgnP, ptsP_len]
  obtain ⟨l, hP, hl2, K3⟩ := A3
  have hl64 : l.length = 64 := by rw [← List.length_map (f := (·.2)), hl2, sgnP, ptsP_len]
  obtain ⟨g, rfl, hgb, hgs, hj0, hj1, hj2⟩ := hP.rowS.spot (by omega)
  have hgw : w.heap.size ≤ g := by have := (unhide HK1).size; omega
  have HI3 : Hid (∃ l2, RowS w3 w1.heap.size (.slice (some ⟨g, 0, none⟩) 64 c3) l2 ∧ l2.length = 64 ∧ Kp [] w w3) := ⟨l, hP.rowS, hl64, (unhide HK1).trans K3⟩
  have hc64 : 64 ≤ c3 := by
    have h0 := hP.1.2
    rcases h0 with ⟨h', _⟩ | ⟨g', cap, cur, h', _, _, h1, _⟩
    · cases h'
    · injection h' with e1 e2 e3
      subst e3
      rw [List.length_map] at h1
      omega
  clear hP hl2 hl64 K3 hj0 hj1 hj2 HK1 HR1
  go_upto_block 0 with fail
  go_cut [10, 11] from 27 to 63 (fun s10 s11 wc => Hid (∃ l2, RowS wc w1.heap.size (.slice (some ⟨g, 0, none⟩) 64 c3) l2 ∧ l2.length = 64 ∧ Kp [] w wc))
  case first =>
    go_wp2_with fail
    go_loopw [10] (fun i wr => ∃ k : Nat, k ≤ np ∧ i = .int .i64 k ∧ Hid (∃ l2, RowS wr w1.heap.size (.slice (some ⟨g, 0, none⟩) 64 c3) l2 ∧ l2.length = 64 ∧ Kp [] w wr)) (fun i _ => np - (intOf i).toNat)
    case atStart => exact ⟨0, by omega, rfl, HI3⟩
    case round =>
      obtain ⟨k, hk, rfl, HI⟩ := hrel
      clear HI3
      by_cases h1 : k < np
      · have h1i : (k : Int) < (np : Int) := by omega
        by_cases h2 : k < na
        · have h2i : (k : Int) < (na : Int) := by omega
          by_cases h3 : k < 10
          · have h3i : (k : Int) < 10 := by omega
            have hkp : k < lp.length := by have := unhide HNP; omega
            have hka : k < la.length := by have := unhide HNA; omega
            obtain ⟨l2, RS, hl2, Kr⟩ := unhide HI
            obtain ⟨b, off, rfl, hc, hS, hB⟩ := unhide HCP k hkp
            obtain ⟨aa, rfl, hd⟩ := unhide HCA k hka
            have hzb := unhide HBA la[k] (List.getElem_mem hka)
            obtain ⟨x, hx⟩ : ∃ x, x = lp[k] := ⟨_, rfl⟩
            obtain ⟨z, hz⟩ : ∃ z, z = la[k] := ⟨_, rfl⟩
            rw [← hx] at hc hS hB
            rw [← hz] at hd hzb
            have hcw := Kr.cell hc (by simp)
            have hdw := Kr.cell hd (by simp)
            have hCU := cut_any x.1 x.2 40 wr (hS.kept Kr (by simp))
            obtain ⟨ax, nx, cx, hxv⟩ : ∃ ax nx cx, x.1 = .slice ax nx cx := by obtain ⟨_, _, e, _⟩ := hS; exact ⟨_, _, _, e⟩
            rw [hxv] at hcw
            obtain ⟨y, hy⟩ : ∃ y, y = x.2.take 40 := ⟨_, rfl⟩
            rw [← hy] at hCU
            rw [hxv] at hCU hS
            have HBy : Hid (Bs y) := by rw [hy]; exact hB.take _
            have HWI := hide (fun w' => within_any z 0 63 w' (by omega) (by omega) (by omega) hzb)
            have HCU := hide hCU
            have HS := hide hS
            have HRS := hide RS
            have HL2 := hide hl2
            have HKr := hide Kr
            clear HI RS hl2 Kr hc hd hS hB hx hz hCU hxv hy hzb HCP HCA
            go_wp2_with fail
            refine (unhide HCU).mono ?_
            rintro ee w5 ⟨ac, cc, rfl, hT, hw⟩
            subst w5
            have HT := hide (hT _ (unhide HS))
            clear hT HCU HS
            obtain ⟨ny, hny⟩ : ∃ n, n = y.length := ⟨_, rfl⟩
            rw [← hny] at HT ⊢
            clear hny
            by_cases hev : k % 2 = 0
            · have hevi : Int.tmod (k : Int) 2 = 0 := by rw [Int.tmod_eq_emod_of_nonneg (by omega)]; omega
              have heve : (k : Int) % 2 = 0 := by omega
              go_wp2_with fail
              refine (sized_any _ y wr ((unhide HT).kept (unhide HKr) (by simp)) (unhide HBy)).mono ?_
              rintro ee w6 ⟨g6, y6, rfl, hy6, hB6, R6, K6⟩
              have HR6 := hide R6
              have HK6 := hide K6
              have HB6 := hide hB6
              have hdw6 := K6.cell hdw (by simp)
              clear R6 K6 hB6 hy6 hdw
              go_wp2_with fail
              refine (unhide HWI _).mono ?_
              rintro ee w7 ⟨p0, rfl, hp0, hp1, hw⟩
              subst w7
              obtain ⟨p, rfl⟩ := Int.eq_ofNat_of_zero_le hp0
              have hp64 : (p : Int) < 64 := by omega
              have RS6 := (unhide HRS).kept (unhide HK6)
              obtain ⟨g', e, hj0, hgs6, hj1, hcs, hfs⟩ := RS6.spot (by omega)
              cases e
              clear hj0 hj1
              obtain ⟨u, hu⟩ := hcs p (by omega)
              have hf := hfs p
              have hgr : g < wr.heap.size := by obtain ⟨g'', e, _, h', _⟩ := (unhide HRS).spot (by omega); cases e; exact h'
              have HN := hide (RS6.set p (.slice (some ⟨g6, 0, none⟩) 32 32, y6) (unhide HR6).sl (unhide HB6) (fun h => by
                have e : g6 = g := by simpa [Value.ownBlock] using h
                have := (unhide HR6).own g6 rfl
                omega))
              have HKN : Hid (Kp [] w (w6.setCell ⟨g, p, none⟩ (.slice (some ⟨g6, 0, none⟩) 32 32))) := ((unhide HKr).trans (unhide HK6)).setCell (p := ⟨g, p, none⟩) (.inr hgw) _
              clear RS6 hcs hfs HWI HR6 HRS
              go_wp2_with fail
              go_roundw
              case rel => exact ⟨k + 1, by omega, by go_num, _, unhide HN, by rw [List.length_set]; exact unhide HL2, unhide HKN⟩
              case measure => simp [intOf]; omega
            · have hevi : Int.tmod (k : Int) 2 = 1 := by rw [Int.tmod_eq_emod_of_nonneg (by omega)]; omega
              have heve : (k : Int) % 2 = 1 := by omega
              go_wp2_with fail
              refine (unhide HWI _).mono ?_
              rintro ee w7 ⟨p0, rfl, hp0, hp1, hw⟩
              subst w7
              obtain ⟨p, rfl⟩ := Int.eq_ofNat_of_zero_le hp0
              have hp64 : (p : Int) < 64 := by omega
              obtain ⟨g', e, hj0, hgs6, hj1, hcs, hfs⟩ := (unhide HRS).spot (by omega)
              cases e
              clear hj0 hj1
              obtain ⟨u, hu⟩ := hcs p (by omega)
              have hf := hfs p
              have HN := hide ((unhide HRS).set p (.slice ac ny cc, y) ((unhide HT).kept (unhide HKr) (by simp)) (unhide HBy) (fun h => Sl.below (unhide HT) h hgw))
              have HKN : Hid (Kp [] w (wr.setCell ⟨g, p, none⟩ (.slice ac ny cc))) := (unhide HKr).setCell (p := ⟨g, p, none⟩) (.inr hgw) _
              clear hcs hfs HWI HRS
              go_wp2_with fail
              go_roundw
              case rel => exact ⟨k + 1, by omega, by go_num, _, unhide HN, by rw [List.length_set]; exact unhide HL2, unhide HKN⟩
              case measure => simp [intOf]; omega
          · have h3i : ¬ (k : Int) < 10 := by omega
            clear HCP HCA
            go_wp2_with fail
            go_meet
            case rel => exact HI
        · have h2i : ¬ (k : Int) < (na : Int) := by omega
          clear HCP HCA
          go_wp2_with fail
          go_meet
          case rel => exact HI
      · have h1i : ¬ (k : Int) < (np : Int) := by omega
        clear HCP HCA
        go_wp2_with fail
        go_meet
        case rel => exact HI
  case rest =>
    obtain ⟨l2, RS, hl2, Kc⟩ := unhide hcut
    have HL := hide (RS.lists (by omega))
    have HL64 := hide hl2
    have HKc := hide Kc
    clear hcut RS hl2 Kc HI3 HCP HCA
    go_upto_if 66 with fail
    go_cut [9] from 64 to 72 (fun s9 wc => Hid (∃ nn l3, s9 = .slice (some ⟨g, 0, none⟩) nn c3 ∧ Lists wc s9 l3 ∧ Kp [] w wc))
    case first =>
      by_cases h7 : Int.tmod size 7 = 0
      · have h7b : (Int.tmod size 7 == 0) = true := by simp [h7]
        go_wp2_with fail
        refine (unhide HWS _).mono ?_
        rintro ee w7 ⟨p0, rfl, hp0, hp1, hw⟩
        subst w7
        obtain ⟨p, rfl⟩ := Int.eq_ofNat_of_zero_le hp0
        have hpc : (p : Int) ≤ (c3 : Int) := by omega
        have HLT := hide ((unhide HL).take (n := p) (by have := unhide HL64; omega))
        clear HWS HL
        go_wp2_with fail
        go_meet
        case rel => exact ⟨p, l2.take p, rfl, unhide HLT, unhide HKc⟩
      · have h7b : (Int.tmod size 7 == 0) = false := by simp [h7]
        go_wp2_with fail
        go_meet
        case rel => exact ⟨64, l2, rfl, unhide HL, unhide HKc⟩
    case rest =>
      obtain ⟨nn, l3, rfl, hL3, K3⟩ := unhide hcut
      have HL3 := hide hL3
      have HK3 := hide K3
      clear hL3 K3 hcut HL HL64 HKc HWS
      obtain ⟨b1, hb1⟩ : ∃ b, b = areP (l3.map (·.2)) := ⟨_, rfl⟩
      obtain ⟨r1, hr1⟩ : ∃ r, r = rootP d (l3.map (·.2)) := ⟨_, rfl⟩
      obtain ⟨S1, hS1⟩ : ∃ S, S = strOfNums (if b1 then r1 else []) := ⟨_, rfl⟩
      have HB1 := hide hb1
      have HR1 := hide hr1
      have HS1 := hide hS1
      obtain ⟨b2, hb2⟩ : ∃ b, b = areP ((lp.take (min 100 lp.length)).map fun x => x.2.take 100) := ⟨_, rfl⟩
      obtain ⟨r2, hr2⟩ : ∃ r, r = rootP d ((lp.take (min 100 lp.length)).map fun x => x.2.take 100) := ⟨_, rfl⟩
      obtain ⟨S2, hS2⟩ : ∃ S, S = strOfNums (if b2 then r2 else []) := ⟨_, rfl⟩
      have HB2 := hide hb2
      have HR2 := hide hr2
      have HS2 := hide hS2
      clear hb1 hr1 hS1 hb2 hr2 hS2
      go_wp2_with fail
      refine (root_any _ ms _ l3 d b1 r1 (unhide HD) (unhide HB1) (unhide HR1) wc ((unhide C1).kept (unhide HK3) (by simp)) (unhide HBm) (by omega) (unhide HL3) ((unhide HG).kept (unhide HK3) (by simp))).mono ?_
      rintro ee w5 ⟨v5, rfl, hRt, K5⟩
      obtain ⟨a5, m5, c5, rfl, S5⟩ := Rooted.sl hRt
      have HS5 := hide S5
      have HK5 := hide ((unhide HK3).trans K5)
      have HL5 := hide ((unhide HL3).kept K5)
      clear hRt S5 K5 HK3 HL3
      go_wp2_with fail
      refine (refroot_any _ ms _ l3 d b1 r1 (unhide HD) (unhide HB1) (unhide HR1) w5 ((unhide C1).kept (unhide HK5) (by simp)) (unhide HBm) (by omega) (unhide HL5)).mono ?_
      rintro ee w6 ⟨v6, rfl, hRt, K6⟩
      obtain ⟨a6, m6, c6, rfl, S6⟩ := Rooted.sl hRt
      have HS56 := hide ((unhide HS5).kept K6 (by simp))
      have HS6 := hide S6
      have HK6 := hide ((unhide HK5).trans K6)
      clear hRt S6 K6 HK5 HL5 HS5
      go_wp2_with fail
      refine (few_any _ lp 100 100 w6 ((unhide HLp).kept (unhide HK6)) (by omega)).mono ?_
      rintro ee w7 ⟨o7, rfl, F7⟩
      obtain ⟨l7, hL7, he7⟩ := F7.lists (unhide HLp).bs (by omega)
      have K7 : Kp [] w6 w7 := by obtain ⟨_, _, _, h, _⟩ := F7; exact h
      obtain ⟨a7, c7, e7⟩ : ∃ ao c, o7 = .slice ao l7.length c := by obtain ⟨ao, c, e, _⟩ := hL7; exact ⟨ao, c, e⟩
      obtain ⟨m7, hm7⟩ : ∃ m, m = l7.length := ⟨_, rfl⟩
      rw [← hm7] at e7
      subst e7
      have HK7 := hide ((unhide HK6).trans K7)
      have HS57 := hide ((unhide HS56).kept K7 (by simp))
      have HS67 := hide ((unhide HS6).kept K7 (by simp))
      have HL7 := hide hL7
      have HE7 := hide he7
      clear F7 hL7 he7 K7 hm7 HK6 HS56 HS6
      go_wp2_with fail
      refine (root_any _ ms _ l7 d b2 r2 (unhide HD) (by rw [unhide HB2, unhide HE7]) (by rw [unhide HR2, unhide HE7]) w7 ((unhide C1).kept (unhide HK7) (by simp)) (unhide HBm) (by omega) (unhide HL7) ((unhide HG).kept (unhide HK7) (by simp))).mono ?_
      rintro ee w8 ⟨v8, rfl, hRt, K8⟩
      obtain ⟨a8, m8, c8, rfl, S8⟩ := Rooted.sl hRt
      have HS8 := hide S8
      have HK8 := hide ((unhide HK7).trans K8)
      have HS58 := hide ((unhide HS57).kept K8 (by simp))
      have HS68 := hide ((unhide HS67).kept K8 (by simp))
      clear hRt S8 K8 HK7 HS57 HS67 HL7 HE7
      go_wp2_with fail
      refine (few_any _ lp 100 100 w8 ((unhide HLp).kept (unhide HK8)) (by omega)).mono ?_
      rintro ee w9 ⟨o9, rfl, F9⟩
      obtain ⟨l9, hL9, he9⟩ := F9.lists (unhide HLp).bs (by omega)
      have K9 : Kp [] w8 w9 := by obtain ⟨_, _, _, h, _⟩ := F9; exact h
      obtain ⟨a9, c9, e9⟩ : ∃ ao c, o9 = .slice ao l9.length c := by obtain ⟨ao, c, e, _⟩ := hL9; exact ⟨ao, c, e⟩
      obtain ⟨m9, hm9⟩ : ∃ m, m = l9.length := ⟨_, rfl⟩
      rw [← hm9] at e9
      subst e9
      have HK9 := hide ((unhide HK8).trans K9)
      have HS59 := hide ((unhide HS58).kept K9 (by simp))
      have HS69 := hide ((unhide HS68).kept K9 (by simp))
      have HS89 := hide ((unhide HS8).kept K9 (by simp))
      have HL9 := hide hL9
      have HE9 := hide he9
      clear F9 hL9 he9 K9 hm9 HK8 HS58 HS68 HS8
      go_wp2_with fail
      refine (refroot_any _ ms _ l9 d b2 r2 (unhide HD) (by rw [unhide HB2, unhide HE9]) (by rw [unhide HR2, unhide HE9]) w9 ((unhide C1).kept (unhide HK9) (by simp)) (unhide HBm) (by omega) (unhide HL9)).mono ?_
      rintro ee wx ⟨vx, rfl, hRt, Kx⟩
      obtain ⟨ax, mx, cx, rfl, Sx⟩ := Rooted.sl hRt
      have cv5 := ((unhide HS59).kept Kx (by simp)).conv (P := Tryd.prog) 22 9 5 Tryd.underlying22 Tryd.underlying5 Tryd.underlying9
      have cv6 := ((unhide HS69).kept Kx (by simp)).conv (P := Tryd.prog) 22 9 5 Tryd.underlying22 Tryd.underlying5 Tryd.underlying9
      have cv8 := ((unhide HS89).kept Kx (by simp)).conv (P := Tryd.prog) 22 9 5 Tryd.underlying22 Tryd.underlying5 Tryd.underlying9
      have cvx := Sx.conv (P := Tryd.prog) 22 9 5 Tryd.underlying22 Tryd.underlying5 Tryd.underlying9
      rw [← unhide HS1] at cv5 cv6
      rw [← unhide HS2] at cv8 cvx
      have HKx := hide ((unhide HK9).trans Kx)
      have HKN := hide (known_any wx ((unhide HG).kept (unhide HKx) (by simp)))
      clear hRt Sx Kx HK9 HS59 HS69 HS89 HL9 HE9
      go_wp2_with fail
      refine (unhide HKN).mono ?_
      rintro ee wy ⟨rfl, Ky⟩
      have HKy := hide ((unhide HKx).trans Ky)
      clear HKN Ky HKx cv5 cv6 cv8 cvx
      go_wp2_with fail
      go_ret
      exact ⟨rfl, (unhide HKy).below (Nat.le_refl _) (by simp)⟩
set_option maxRecDepth 100000 in
theorem lifted (os : Os) (started : os.Started) (H : Type) (enc : TypeId × Value → H) :
    ReturnsInHanded {} Tryd.checked os 5 .any (fun w args => (Rows.onceRootsSpec.pre enc Tryd.prog Tryd.f5 [] false w args ∧ laidMetH Tryd.prog laid1 w) ∧ sizedMet enc Tryd.prog Tryd.f5 (OpenSpec.ofChange Rows.onceRootsSpec) false w args) (Rows.onceRootsSpec.post enc Tryd.prog Tryd.f5 false true false false) := by
  refine returnsInHanded_of_change_and (C := Tryd.checked) (X := fun w _ => laidMetH Tryd.prog laid1 w) (fun _ _ _ hh h => h.of_heap hh) own started (by kernel_rfl) Tryd.func5
    (ChangeSpec.witness_shaped (enc := enc) (C := Tryd.checked) (os := os) (X := fun w _ => laidMetH Tryd.prog laid1 w) false (World.doorLaid Tryd.prog 400 os) #[.slice none 0 0, .slice none 0 0, .slice none 0 0, .int .i64 0] 8 rfl (World.shaped_of_RefB (by kernel_rfl) (by kernel_rfl)) (by kernel_rfl) (by kernel_rfl) (by kernel_rfl) (door_met os _)) ?_
  intro W base args ds gs before hval0 hW hcnd hsz0 hL _
  have hG := gl_of_laid hL
  have hval : ∀ (j : Nat) t v, Tryd.f5.params[j]? = some t → args[j]? = some v → Value.okWide Tryd.prog W .any base t v := hval0
  have hW' := hW
  obtain ⟨p, q, hA0, hV, rfl, hfz, hnd⟩ := hW
  have hA : DataW.TrodAll enc Tryd.prog W 0 (fun _ => true) true Tryd.f5.params.toList args.toList ds p := hA0
  rw [Tryd.params5] at hA hval
  obtain ⟨v0, vs0, d0, ds0, p0, q0, hargs, rfl, rfl, h0, r0⟩ := trodAll_cons hA
  obtain ⟨v1, vs1, d1, ds1, p1, q1, rfl, rfl, rfl, h1, r1⟩ := trodAll_cons r0
  obtain ⟨v2, vs2, d2, ds2, p2, q2, rfl, rfl, rfl, h2, r2⟩ := trodAll_cons r1
  obtain ⟨v3, vs3, d3, ds3, p3, q3, rfl, rfl, rfl, h3, r3⟩ := trodAll_cons r2
  obtain ⟨rfl, rfl, rfl⟩ := trodAll_nil r3
  obtain rfl : args = #[v0, v1, v2, v3] := by cases args; simp_all
  obtain ⟨rfl, rfl⟩ := trodVars_none hV
  obtain ⟨a0, len0, cap0, rfl⟩ := okWide_slice Tryd.underlying22 (hval 0 22 v0 rfl rfl)
  have k0 := h0
  have lt0 : ∀ x ∈ p0, x.block < W.heap.size := by obtain ⟨m, hm⟩ := k0; exact DataW.trod_lt m _ _ _ hm
  obtain ⟨l0, s0, b0⟩ : ∃ bs, Sl W (.slice a0 len0 cap0) bs ∧ Bs bs := by
    obtain ⟨fuel, hf⟩ := h0
    exact bytes_of_trod (by simpa [Value.cells] using hf)
  obtain ⟨a1, len1, cap1, rfl⟩ := okWide_slice Tryd.underlying25 (hval 1 25 v1 rfl rfl)
  have k1 := h1
  have lt1 : ∀ x ∈ p1, x.block < W.heap.size := by obtain ⟨m, hm⟩ := k1; exact DataW.trod_lt m _ _ _ hm
  obtain ⟨l1, s1⟩ : ∃ l, Lists W (.slice a1 len1 cap1) l := by
    obtain ⟨fuel, hf⟩ := h1
    exact lists_of_trod (by simpa [Value.cells] using hf)
  obtain ⟨a2, len2, cap2, rfl⟩ := okWide_slice Tryd.underlying38 (hval 2 38 v2 rfl rfl)
  have k2 := h2
  have lt2 : ∀ x ∈ p2, x.block < W.heap.size := by obtain ⟨m, hm⟩ := k2; exact DataW.trod_lt m _ _ _ hm
  obtain ⟨l2, s2⟩ : ∃ l, Ints W (.slice a2 len2 cap2) l := by
    obtain ⟨fuel, hf⟩ := h2
    exact ints_of_trod (by simpa [Value.cells] using hf)
  obtain ⟨a3, rfl, rfl, rfl, w3⟩ := open_int Tryd.underlying3 (hval 3 3 v3 rfl rfl) h3
  clear hA0 hval0
  refine (walk (.slice a0 len0 cap0) l0 (.slice a1 len1 cap1) l1 (.slice a2 len2 cap2) l2 a3 W hG s0 b0 s1 s2 (bounds_i64 w3)).mono fun e W' ⟨he, bel⟩ => ?_
  subst he
  exact ⟨_, rfl, _, _, _, [], _, [], hW', trodAll_mk1 (shut_bool Tryd.underlying4 _), (trodAll_cons_mk (Below.trod laidOut (by kernel_rfl) (of_decide_eq_true (by kernel_rfl)) k0 bel lt0) (trodAll_cons_mk (Below.trod laidOut (by kernel_rfl) (of_decide_eq_true (by kernel_rfl)) k1 bel lt1) (trodAll_cons_mk (Below.trod laidOut (by kernel_rfl) (of_decide_eq_true (by kernel_rfl)) k2 bel lt2) (trodAll_cons_mk (shut_int Tryd.underlying3 w3) trodAll_mk0)))), rfl, bel.frame _, fun h => by cases h⟩

theorem over : Rows.onceRootsRow.holds Tryd.pinned (OpenSpec.ofChange Rows.onceRootsSpec) :=
  OpenClaim.holds_of_wide 5 Tryd.f5 rfl rfl rfl rfl rfl rfl rfl ⟨rfl, rfl, rfl, rfl, rfl⟩ rfl rfl rfl rfl rfl (by kernel_rfl) Tryd.func5 (by kernel_rfl)
    (of_decide_eq_true (by kernel_rfl)) (by unfold Func.isWrapper; first | (rw [if_pos (by decide +kernel)]; kernel_rfl) | (rw [if_neg (by decide +kernel)]; exact ⟨rfl, rfl⟩))
    (fun os started H enc _ => lifted os started H enc)
end Go.Proofs.YtacfciimialobaaDoor.onceRoots

namespace Go.Proofs.YtacfciimialobaaDoor
/-- The given statement: the tied card. -/
theorem OnceRoots_holds : Rows.OnceRootsCardSaid :=
  Claim7.holds_tied_plain_at .later [] [.data] true Rows.onceRootsCard.stood.harness false
    onceRoots.over (fun _ h => by cases h) (by kernel_rfl) (fun _ h => by cases h) onceRoots_row_tie rfl ⟨rfl, rfl⟩ (by kernel_rfl) rfl
    (fun f fn hf hfn => by
      obtain rfl : f = 5 := Option.some.inj ((show Tryd.prog.funcNamed "broadsheet/broadsheetlaw4.OnceRoots" = some 5 by kernel_rfl).symm.trans hf) |>.symm
      obtain rfl : fn = Tryd.f5 := (Option.some.inj (Tryd.func5.symm.trans hfn)).symm
      exact ⟨by kernel_rfl, fun j t ht => by
        rw [Tryd.params5] at ht
        have hm : t ∈ ([22, 25, 38, 3] : List TypeId) := by simpa using Array.mem_of_getElem? ht
        have hall : (([22, 25, 38, 3] : List TypeId).all fun u => !Tryd.prog.wantsStandIn u) = true := by kernel_rfl
        exact (show Tryd.prog.wantsStandIn t = false by simpa using List.all_eq_true.1 hall t hm)⟩)
    (by kernel_rfl)
#print axioms OnceRoots_holds
end Go.Proofs.YtacfciimialobaaDoor
