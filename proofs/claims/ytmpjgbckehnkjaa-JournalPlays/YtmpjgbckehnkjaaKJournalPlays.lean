/-
  JournalPlays: records lie as the document says, call for call; a disk that is full, or whose power goes, refuses; told is what was written.
-/
import Derived.Test.YtmpjgbckehnkjaaKJCut
import Derived.ShutString
import Derived.ChangeOld
import Derived.Below
namespace Go.Proofs.Ytmpjgbckehnkjaa.journalPlays
open Go.ChangeShapes Go.WideShapes Go.ChangeAt Go.RowKit
open Go.Proofs.Ytmpjgbckehnkjaa
set_option linter.unusedVariables false

theorem own : ownKnob Try.prog.godebug = none := by kernel_rfl
theorem laidOut : laidOutB Try.prog = true := by kernel_rfl
set_option maxHeartbeats 20000000 in
set_option maxRecDepth 100000 in
theorem walk (v0 : Value) (l0 : List AskJ) (limit arm : Int) (w : World) (s0 : AskJs w v0 l0) (hli : -9223372036854775808 ≤ limit ∧ limit ≤ 9223372036854775807) (har : -9223372036854775808 ≤ arm ∧ arm ≤ 9223372036854775807) :
    Calls Try.prog 5 #[v0, .int .i64 limit, .int .i64 arm] w fun e w' => e = .returned (.bool true) ∧ Below w.heap.size w w' := by
  have hwi := wiP_ge limit 0 400 (by omega)
  obtain ⟨q, hq⟩ : ∃ q : Nat, (q : Int) = wiP limit 0 400 := ⟨(wiP limit 0 400).toNat, by omega⟩
  have hq4 : (q : Int) ≤ 400 := by omega
  have HW := hide (within_wi limit 0 400 w (by omega) (by omega) (by omega))
  rw [← hq] at HW
  have HNw := hide (nw_new q w (by omega) (by omega))
  obtain ⟨al, cl, e0, hll, -⟩ := id s0
  have HS0 := hide s0
  obtain ⟨L, hL⟩ : ∃ L, L = l0.length := ⟨_, rfl⟩
  rw [← hL] at e0 hll
  subst e0
  have HL := hide hL
  have hah : arm ≤ 9223372036854775807 := har.2
  clear hq hwi hL s0 har
  go_enter Try.func5, Try.ntmps5
  go_wp2_with fail
  refine HW.out.mono ?_
  rintro ee w1 ⟨rfl, hw1⟩
  subst w1
  clear HW
  go_wp2_with fail
  refine HNw.out.mono ?_
  rintro ee w1 ⟨p, rfl, N1⟩
  have HOp := hide (open_ok N1 rfl (Int.le_refl 0) (b := []) rfl opnP_nil (d' := dk0 q) rfl)
  simp only [List.length_nil] at HOp
  clear N1 HNw
  go_wp2_with fail
  refine HOp.out.mono ?_
  rintro ee w2 ⟨j, v2, a2, c2, l2, rfl, J2, -, -, -, -⟩
  have HJ2 := hide J2
  clear J2 HOp
  have HAr := hide (nw_arm HJ2.out.nw arm hah rfl)
  go_wp2_with fail
  refine HAr.out.mono ?_
  rintro ee w3 ⟨rfl, N3, T3⟩
  have HJ3 := hide (HJ2.out.disk N3 T3)
  have hd3 : (dk0 (q : Int)).armed (max arm 0) = ⟨[], 0, q, rr arm 0 false, false⟩ := by
    show (⟨[], 0, q, max arm 0, false⟩ : Dk) = _
    rw [rr_up]
    by_cases h0 : 0 < arm
    · rw [if_pos h0, show max arm 0 = arm - 0 from by omega]
    · rw [if_neg h0, show max arm 0 = 0 from by omega]
  rw [hd3] at HJ3
  have HLj : Hid (Lj w w3 w3 p j v2 ⟨[], 0, q, rr arm (0 : Nat) false, false⟩ 0 (.slice none 0 0) []) := ⟨HJ3.out, ⟨rfl, .inl ⟨rfl, rfl⟩⟩, (fun k hk => by cases hk), HJ3.out.nw.kp.size, Nat.le_refl _⟩
  clear N3 T3 HAr HJ2 hd3 HJ3
  go_wp2_with fail
  go_loopw [13, 14, 15, 16, 17, 18] (fun cv ctv syv dnv x i wr => ∃ (k cN ct sy m cx : Nat) (ax : Option Addr) (v : Value) (X : List Int) (dn : Bool), k ≤ 40 ∧ k ≤ L ∧ cN ≤ 2 * k ∧ ct ≤ k ∧ cv = .int .i64 cN ∧ ctv = .int .i64 ct ∧ syv = .int .i64 sy ∧ dnv = .bool dn ∧ x = .slice ax m cx ∧ i = .int .i64 k ∧ (dn = false → 0 < arm → (cN : Int) < arm) ∧ Lj w w3 wr p j v ⟨X, sy, q, rr arm cN dn, dn⟩ ct x X) (fun _ _ _ _ _ i _ => 40 - (intOf i).toNat)
  case atStart => exact ⟨0, 0, 0, 0, 0, 0, none, v2, [], false, by omega, by omega, by omega, by omega, rfl, rfl, rfl, rfl, rfl, rfl, fun _ h => h, HLj.out⟩
  case round =>
    obtain ⟨k, cN, ct, sy, m, cx, ax, v, X, dn, hk, hkL, hcN, hct, rfl, rfl, rfl, rfl, rfl, rfl, hlt0, LJ⟩ := hrel
    have HLJ := hide LJ
    have HLT0 := hide hlt0
    have HM := hide LJ.row.len
    have hXq : (X.length : Int) ≤ (q : Int) := LJ.jn.nw.dk.fit.ok.fits
    have hmq : (m : Int) ≤ (q : Int) := by have := HM.out; omega
    have HKr := hide LJ.jn.nw.kp
    clear LJ hlt0 hXq HLj
    by_cases hgo : k < L ∧ k < 40
    · obtain ⟨hlt, hlt4⟩ := hgo
      have hltL : (k : Int) < (L : Int) := by omega
      have hlt40 : (k : Int) < 40 := by omega
      obtain ⟨ao', c', e', -, hcell⟩ := HS0.out
      injection e' with e1 e2 e3
      subst e1
      obtain ⟨b, off, rfl, hc, hS, hB⟩ := hcell k (by rw [← HL.out]; exact hlt)
      generalize l0[k]'(by rw [← HL.out]; exact hlt) = y at hc hS hB
      obtain ⟨kd, vb, bs⟩ := y
      have HR : Hid (∀ w', Kp [] w w' → w'.cell? ⟨b, off + k * 2, none⟩ = some (.int .i64 kd) ∧ w'.cell? ⟨b, off + k * 2 + 1, none⟩ = some vb ∧ Sl w' vb bs) := fun w' k' =>
        ⟨by have := k'.cell (hc 0 _ rfl) (by simp); rwa [Nat.add_zero] at this, k'.cell (hc 1 _ rfl) (by simp), hS.kept k' (by simp)⟩
      obtain ⟨ab, cb, hvb, -⟩ := id hS
      obtain ⟨lb, hlb⟩ : ∃ n, n = bs.length := ⟨_, rfl⟩
      simp only at hvb
      rw [← hlb] at hvb
      subst hvb
      obtain ⟨C, hC⟩ : ∃ C, C = bs.take 40 := ⟨_, rfl⟩
      obtain ⟨nb, hnb⟩ : ∃ n, n = min lb 40 := ⟨_, rfl⟩
      have hCl : C.length = nb := by rw [hC, hnb, hlb]; simp; omega
      have hnb40 : (nb : Int) ≤ 40 := by omega
      have HCB : Hid (Bs C) := by rw [hC]; exact hB.takes 40
      have HCl := hide hCl
      have HZC : Hid (∀ w', Kp [] w w' → Sl w' (.slice ab nb cb) C) := fun w' k' => by
        have := cutv_sl 40 (HR.out w' k').2.2
        rw [hC, hnb]; exact this
      have HCt : Hid (Calls Try.prog 20 #[.slice ab lb cb, .int .i64 40] wr fun e w'' => e = .returned (.slice ab nb cb) ∧ w'' = wr) := by
        rw [hnb]; exact cutv_any ab lb cb 40 bs wr (HR.out wr HKr.out).2.2
      have HRL : Hid ((recP C).length = 8 + nb) := by show _ = _; rw [recP_len, hCl]
      obtain ⟨r0, r1, -⟩ := HR.out wr HKr.out
      have HRc := hide (record_any (.slice ab nb cb) C wr (HZC.out wr HKr.out) (by omega))
      have hw8 : IntKind.i64.wrap ((m : Int) + 8) = (m : Int) + 8 := by simp [IntKind.wrap, IntKind.signed, IntKind.bits]; omega
      have hwn : IntKind.i64.wrap ((m : Int) + 8 + (nb : Int)) = (m : Int) + 8 + (nb : Int) := by simp [IntKind.wrap, IntKind.signed, IntKind.bits]; omega
      have hwc : IntKind.i64.wrap ((cN : Int) + 1) = (cN : Int) + 1 := by simp [IntKind.wrap, IntKind.signed, IntKind.bits]; omega
      have hwc2 : IntKind.i64.wrap ((cN : Int) + 1 + 1) = (cN : Int) + 1 + 1 := by simp [IntKind.wrap, IntKind.signed, IntKind.bits]; omega
      have hwt : IntKind.i64.wrap ((ct : Int) + 1) = (ct : Int) + 1 := by simp [IntKind.wrap, IntKind.signed, IntKind.bits]; omega
      clear hcell e2 e3 hc hS hB hlb hC hnb hCl
      by_cases h1 : kd = 1
      · subst h1
        as_aux_lemma =>
          go_upto_if 82 with (first | (go_at_call 20; refine HCt.out.mono ?_; rintro ee w4 ⟨rfl, hw4⟩; subst w4; clear HCt) | fail)
          go_cut [13, 14, 16, 17, 20] from 53 to 211 (fun c ctv dnv x want wc => ∃ (m5 c5 ct1 : Nat) (a5 : Option Addr) (Y : List Int) (er dn1 : Bool) (en : Int), c = .int .i64 ((cN + 1 : Nat) : Int) ∧ ctv = .int .i64 ct1 ∧ dnv = .bool dn1 ∧ x = .slice a5 m5 c5 ∧ want = .int .i64 en ∧ en = (if er then 0 else 13) ∧ ct1 = (if er then ct + 1 else ct) ∧ (er = true → dn1 = false) ∧ Hid ((⟨X, sy, q, rr arm cN dn, dn⟩ : Dk).app (recP C) = (er, ⟨Y, sy, q, rr arm ((cN + 1 : Nat) : Int) dn1, dn1⟩)) ∧ Hid (dn1 = false → 0 < arm → (((cN + 1 : Nat)) : Int) < arm) ∧ Hid (Lj w w3 wc p j v ⟨X, sy, q, rr arm cN dn, dn⟩ ct (.slice a5 m5 c5) Y))
          case first =>
            as_aux_lemma =>
              cases dn
              · have HLT : Hid (0 < arm → (cN : Int) < arm) := HLT0.out rfl
                by_cases hg : 0 < arm ∧ (cN : Int) + 1 = arm
                · have harm0 : 0 < arm := hg.1
                  have hgd : ((cN : Int) + 1 == arm) = true := by simp [hg.2]
                  have HG := hide hg.2
                  clear hg
                  by_cases hf : m + 8 + nb ≤ q
                  · have hfit : (m : Int) + 8 + (nb : Int) ≤ (q : Int) := by omega
                    have he : (⟨X, sy, q, rr arm cN false, false⟩ : Dk).app (recP C) = (false, (⟨X ++ recP C, sy, q, rr arm ((cN + 1 : Nat) : Int) true, true⟩ : Dk)) := by rw [show (((cN + 1 : Nat)) : Int) = (cN : Int) + 1 from by omega]; exact Dk.japp_gone _ harm0 HG.out (by have := HM.out; have := HRL.out; omega)
                    have HE := hide he
                    clear he
                    go_wp2_with (first
                      | (go_at_call 23; refine HRc.out.mono ?_; rintro ee w4 ⟨a4, m4, c4, rfl, R4, K4⟩; have HL4 := hide (HLJ.out.on K4); have HR4 := hide R4.sl; clear HRc R4 K4 r0 r1)
                      | (at_builtin; refine wpList_append_row rfl (.tmp 117) (.tmp 119) rfl w3.heap.size _ _ rfl HL4.out.row _ _ rfl HR4.out (by have := HM.out; have := HRL.out; omega) HL4.out.sz ?_; intro a5 m5 c5 w5 R5 S5; have HL5 := hide (HL4.out.more R5 S5); clear R5 S5 HL4 HR4 HLJ))
                    go_meet
                    case rel => exact ⟨m5, c5, ct, a5, _, false, true, 13, by go_num, rfl, rfl, rfl, rfl, rfl, rfl, (fun h => by cases h), HE, (fun h => by cases h), HL5⟩
                  · have hfitd : decide ((m : Int) + 8 + (nb : Int) ≤ (q : Int)) = false := decide_eq_false (by omega)
                    have he : (⟨X, sy, q, rr arm cN false, false⟩ : Dk).app (recP C) = (false, (⟨X, sy, q, rr arm ((cN + 1 : Nat) : Int) true, true⟩ : Dk)) := by rw [show (((cN + 1 : Nat)) : Int) = (cN : Int) + 1 from by omega]; exact Dk.japp_gonef _ harm0 HG.out (by have := HM.out; have := HRL.out; omega)
                    have HE := hide he
                    clear he
                    go_wp2_with fail
                    go_meet
                    case rel => exact ⟨m, cx, ct, ax, _, false, true, 13, by go_num, rfl, rfl, rfl, rfl, rfl, rfl, (fun h => by cases h), HE, (fun h => by cases h), HLJ⟩
                · have HNG := hide hg
                  have HUP : Hid (0 < arm → ((cN + 1 : Nat) : Int) < arm) := (fun h => by have := HLT.out h; omega)
                  rcases (by omega : ¬ 0 < arm ∨ (0 < arm ∧ ¬ (cN : Int) + 1 = arm)) with h0 | ⟨h0, h1⟩
                  · have harm : decide (0 < arm) = false := decide_eq_false h0
                    clear hg
                    by_cases hf : m + 8 + nb ≤ q
                    · have hfit : (m : Int) + 8 + (nb : Int) ≤ (q : Int) := by omega
                      have he : (⟨X, sy, q, rr arm cN false, false⟩ : Dk).app (recP C) = (true, (⟨X ++ recP C, sy, q, rr arm ((cN + 1 : Nat) : Int) false, false⟩ : Dk)) := by rw [show (((cN + 1 : Nat)) : Int) = (cN : Int) + 1 from by omega]; exact Dk.japp_ok _ HLT.out HNG.out (by have := HM.out; have := HRL.out; omega)
                      have HE := hide he
                      clear he
                      go_wp2_with (first
                        | (go_at_call 23; refine HRc.out.mono ?_; rintro ee w4 ⟨a4, m4, c4, rfl, R4, K4⟩; have HL4 := hide (HLJ.out.on K4); have HR4 := hide R4.sl; clear HRc R4 K4 r0 r1)
                        | (at_builtin; refine wpList_append_row rfl (.tmp 117) (.tmp 119) rfl w3.heap.size _ _ rfl HL4.out.row _ _ rfl HR4.out (by have := HM.out; have := HRL.out; omega) HL4.out.sz ?_; intro a5 m5 c5 w5 R5 S5; have HL5 := hide (HL4.out.more R5 S5); clear R5 S5 HL4 HR4 HLJ))
                      go_meet
                      case rel => exact ⟨m5, c5, ct + 1, a5, _, true, false, 0, by go_num, by go_num, rfl, rfl, rfl, rfl, rfl, (fun _ => rfl), HE, (fun _ => HUP.out), HL5⟩
                    · have hfitd : decide ((m : Int) + 8 + (nb : Int) ≤ (q : Int)) = false := decide_eq_false (by omega)
                      have he : (⟨X, sy, q, rr arm cN false, false⟩ : Dk).app (recP C) = (false, (⟨X, sy, q, rr arm ((cN + 1 : Nat) : Int) false, false⟩ : Dk)) := by rw [show (((cN + 1 : Nat)) : Int) = (cN : Int) + 1 from by omega]; exact Dk.japp_full _ HLT.out HNG.out (by have := HM.out; have := HRL.out; omega)
                      have HE := hide he
                      clear he
                      go_wp2_with fail
                      go_meet
                      case rel => exact ⟨m, cx, ct, ax, _, false, false, 13, by go_num, rfl, rfl, rfl, rfl, rfl, rfl, (fun h => by cases h), HE, (fun _ => HUP.out), HLJ⟩
                  · have hne : ((cN : Int) + 1 == arm) = false := beq_eq_false_iff_ne.2 h1
                    clear hg h1
                    by_cases hf : m + 8 + nb ≤ q
                    · have hfit : (m : Int) + 8 + (nb : Int) ≤ (q : Int) := by omega
                      have he : (⟨X, sy, q, rr arm cN false, false⟩ : Dk).app (recP C) = (true, (⟨X ++ recP C, sy, q, rr arm ((cN + 1 : Nat) : Int) false, false⟩ : Dk)) := by rw [show (((cN + 1 : Nat)) : Int) = (cN : Int) + 1 from by omega]; exact Dk.japp_ok _ HLT.out HNG.out (by have := HM.out; have := HRL.out; omega)
                      have HE := hide he
                      clear he
                      go_wp2_with (first
                        | (go_at_call 23; refine HRc.out.mono ?_; rintro ee w4 ⟨a4, m4, c4, rfl, R4, K4⟩; have HL4 := hide (HLJ.out.on K4); have HR4 := hide R4.sl; clear HRc R4 K4 r0 r1)
                        | (at_builtin; refine wpList_append_row rfl (.tmp 117) (.tmp 119) rfl w3.heap.size _ _ rfl HL4.out.row _ _ rfl HR4.out (by have := HM.out; have := HRL.out; omega) HL4.out.sz ?_; intro a5 m5 c5 w5 R5 S5; have HL5 := hide (HL4.out.more R5 S5); clear R5 S5 HL4 HR4 HLJ))
                      go_meet
                      case rel => exact ⟨m5, c5, ct + 1, a5, _, true, false, 0, by go_num, by go_num, rfl, rfl, rfl, rfl, rfl, (fun _ => rfl), HE, (fun _ => HUP.out), HL5⟩
                    · have hfitd : decide ((m : Int) + 8 + (nb : Int) ≤ (q : Int)) = false := decide_eq_false (by omega)
                      have he : (⟨X, sy, q, rr arm cN false, false⟩ : Dk).app (recP C) = (false, (⟨X, sy, q, rr arm ((cN + 1 : Nat) : Int) false, false⟩ : Dk)) := by rw [show (((cN + 1 : Nat)) : Int) = (cN : Int) + 1 from by omega]; exact Dk.japp_full _ HLT.out HNG.out (by have := HM.out; have := HRL.out; omega)
                      have HE := hide he
                      clear he
                      go_wp2_with fail
                      go_meet
                      case rel => exact ⟨m, cx, ct, ax, _, false, false, 13, by go_num, rfl, rfl, rfl, rfl, rfl, rfl, (fun h => by cases h), HE, (fun _ => HUP.out), HLJ⟩
              · have he : (⟨X, sy, q, rr arm cN true, true⟩ : Dk).app (recP C) = (false, (⟨X, sy, q, rr arm ((cN + 1 : Nat) : Int) true, true⟩ : Dk)) := by rw [show (((cN + 1 : Nat)) : Int) = (cN : Int) + 1 from by omega]; exact Dk.japp_down _
                have HE := hide he
                clear he
                go_wp2_with fail
                go_meet
                case rel => exact ⟨m, cx, ct, ax, _, false, true, 13, by go_num, rfl, rfl, rfl, rfl, rfl, rfl, (fun h => by cases h), HE, (fun h => by cases h), HLJ⟩
          case rest =>
            obtain ⟨m5, c5, ct1, a5, Y, er, dn1, en, rfl, rfl, rfl, rfl, rfl, hen, hct1, hdn1, HE, HLT1, HL1⟩ := hcut
            have hct1' : ct1 ≤ ct + 1 := by rw [hct1]; split <;> omega
            have HCT1 := hide hct1
            obtain ⟨r0, -, -⟩ := HR.out wc HL1.out.jn.nw.kp
            clear r1 HLJ HRc
            obtain ⟨dd, hdd⟩ : ∃ d : Dk, d = ⟨X, sy, q, rr arm cN dn, dn⟩ := ⟨_, rfl⟩
            rw [← hdd] at HE HL1
            have HR2 : Hid (∀ w', w' = wc → w'.cell? ⟨b, off + k * 2, none⟩ = some (.int .i64 1)) := fun w' h => by rw [h]; exact r0
            cases er
            · obtain rfl : en = 13 := hen
              clear hct1 hdn1
              have HA := hide (jadd_any HL1.out.jn (HZC.out wc HL1.out.jn.nw.kp) HCB.out (by have := HCl.out; omega) (by omega) false (Dk.add_of HE.out) 13 rfl ct1 (by rw [HE.out]; exact HCT1.out))
              go_wp2_with (first
                | (go_at_call 13; refine HA.out.mono ?_; rintro ee w8 ⟨rfl, v8, J8, T8⟩; have HL8 := hide (HL1.out.disk J8 T8); clear HA J8 T8))
              obtain ⟨T, hT⟩ : ∃ T, T = strOfNums Y := ⟨_, rfl⟩
              have HT := hide hT
              have HZ : Hid (∀ w', Kp [] w8.drew w' → Sl w' (.slice a5 m5 c5) Y) := fun w' k' => HL8.out.row.sl.kept ((kp_drew w8).trans k') (by simp)
              have HD := hide (fun w' (k' : Kp [] w8.drew w') => HL8.out.jn.nw.dk.keptN ((kp_drew w8).trans k'))
              have HJn := hide (fun w' (k' : Kp [] w8.drew w') => HL8.out.jn.on ((kp_drew w8).trans k'))
              have HSY : Hid (((sy : Nat) : Int) = (sy : Int)) := rfl
              have HCT : Hid (((ct1 : Nat) : Int) = (ct1 : Int)) := rfl
              clear hT
              refine region_grow Try.mixed [Is (.int .i64 13), Is (.int .i64 13), Is (.bool false), Is (.bool false), Is (.pointer (some ⟨p, 0, none⟩)), SlT (Y), Is (.string T), Is (.slice a5 m5 c5), Is (.string T), Is (.bool false), Is (.bool false), Is (.bool false), Is (.pointer (some ⟨p, 0, none⟩)), Is (.int .i64 sy), Is (.int .i64 sy), Is (.bool false), Is (.bool false), Is (.bool false), Is (.pointer (some ⟨j, 0, none⟩)), Is (.int .i64 ct1), Is (.int .i64 ct1), Is (.bool false), Is (.bool false)] [[(24, none)], [(20, none)], [(189, some 0), (190, some 1)], [(191, some 2)], [(8, none), (192, some 3)], [(193, some 4), (192, some 3)], [(194, some 5), (192, some 3)], [(17, none), (192, some 3)], [(196, some 7), (192, some 3)], [(195, some 6), (197, some 8), (192, some 3)], [(192, some 3), (198, some 9)], [(199, some 10)], [(8, none), (200, some 11)], [(201, some 12), (200, some 11)], [(15, none), (200, some 11)], [(202, some 13), (203, some 14), (200, some 11)], [(200, some 11), (204, some 15)], [(205, some 16)], [(10, none), (206, some 17)], [(207, some 18), (206, some 17)], [(14, none), (206, some 17)], [(208, some 19), (209, some 20), (206, some 17)], [(206, some 17), (210, some 21)]] (by kernel_rfl) ?_ ?_ ?_
              · simp only [List.mem_cons, List.not_mem_nil, or_false]
                intro R hR
                rcases hR with rfl | rfl | rfl | rfl | rfl | rfl | rfl | rfl | rfl | rfl | rfl | rfl | rfl | rfl | rfl | rfl | rfl | rfl | rfl | rfl | rfl | rfl | rfl <;> first | exact stable_is _ | exact stable_sl _
              · refine steps_cons (fun a w hk hn => ?_) ?_
                · have h24 : a.eval (.tmp 24) = .int .i64 13 := hn.1
                  clear hn
                  refine wants_plain rfl ?_
                  exact grown_move (.tmp 24) rfl h24
                refine steps_cons (fun a w hk hn => ?_) ?_
                · have h20 : a.eval (.tmp 20) = .int .i64 13 := hn.1
                  clear hn
                  refine wants_plain rfl ?_
                  exact grown_move (.tmp 20) rfl h20
                refine steps_cons (fun a w hk hn => ?_) ?_
                · have h189 : a.eval (.tmp 189) = .int .i64 13 := hn.1
                  have h190 : a.eval (.tmp 190) = .int .i64 13 := hn.2.1
                  clear hn
                  refine wants_plain rfl ?_
                  refine grown_run (v := .bool false) ?_ (Kp.refl _ _) rfl
                  obtain ⟨ρ, hρ, hc, hf, hg⟩ := eval_is a
                  rw [hρ] at h189 h190 ⊢
                  simp [go_sem, h189, h190]
                refine steps_cons (fun a w hk hn => ?_) ?_
                · have h191 : a.eval (.tmp 191) = .bool false := hn.1
                  clear hn
                  refine wants_plain rfl ?_
                  exact grown_move (.tmp 191) rfl h191
                refine steps_cons (fun a w hk hn => ?_) ?_
                · have h8 : a.eval (.tmp 8) = .pointer (some ⟨p, 0, none⟩) := hn.1
                  have h192 : a.eval (.tmp 192) = .bool false := hn.2.1
                  clear hn
                  refine wants_guard (d := 192) rfl rfl h192 ?_
                  exact grown_move (.tmp 8) rfl h8
                refine steps_cons (fun a w hk hn => ?_) ?_
                · have h193 : a.eval (.tmp 193) = .pointer (some ⟨p, 0, none⟩) := hn.1
                  have h192 : a.eval (.tmp 192) = .bool false := hn.2.1
                  clear hn
                  refine wants_guard (d := 192) rfl rfl h192 ?_
                  refine grown_call (f := 25) rfl Try.func25 (by kernel_rfl) (by kernel_rfl) ?_
                  simp only [List.map_toArray, List.map_cons, List.map_nil, h193]
                  refine (dbytes_any p v8 _ _ w (unhide HD w hk)).mono ?_
                  rintro e w' ⟨ao, m, c, rfl, R, K⟩
                  exact ⟨_, rfl, K, R.sl⟩
                refine steps_cons (fun a w hk hn => ?_) ?_
                · have h194 : Sl w (a.eval (.tmp 194)) (Y) := hn.1
                  have h192 : a.eval (.tmp 192) = .bool false := hn.2.1
                  clear hn
                  refine wants_guard (d := 192) rfl rfl h192 ?_
                  exact grown_conv (.tmp 194) _ _ 5 _ rfl h194 Try.underlying22 Try.underlying5 Try.underlying9 (congrArg Value.string (unhide HT).symm)
                refine steps_cons (fun a w hk hn => ?_) ?_
                · have h17 : a.eval (.tmp 17) = .slice a5 m5 c5 := hn.1
                  have h192 : a.eval (.tmp 192) = .bool false := hn.2.1
                  clear hn
                  refine wants_guard (d := 192) rfl rfl h192 ?_
                  exact grown_move (.tmp 17) rfl h17
                refine steps_cons (fun a w hk hn => ?_) ?_
                · have h196 : a.eval (.tmp 196) = .slice a5 m5 c5 := hn.1
                  have h192 : a.eval (.tmp 192) = .bool false := hn.2.1
                  clear hn
                  refine wants_guard (d := 192) rfl rfl h192 ?_
                  exact grown_conv (.tmp 196) _ _ 5 (Y) rfl (by rw [h196]; exact unhide HZ w hk) Try.underlying22 Try.underlying5 Try.underlying9 (congrArg Value.string (unhide HT).symm)
                refine steps_cons (fun a w hk hn => ?_) ?_
                · have h195 : a.eval (.tmp 195) = .string T := hn.1
                  have h197 : a.eval (.tmp 197) = .string T := hn.2.1
                  have h192 : a.eval (.tmp 192) = .bool false := hn.2.2.1
                  clear hn
                  refine wants_guard (d := 192) rfl rfl h192 ?_
                  refine grown_run (v := .bool false) ?_ (Kp.refl _ _) rfl
                  obtain ⟨ρ, hρ, hc, hf, hg⟩ := eval_is a
                  rw [hρ] at h195 h197 ⊢
                  simp [go_sem, h195, h197]
                refine steps_cons (fun a w hk hn => ?_) ?_
                · have h192 : a.eval (.tmp 192) = .bool false := hn.1
                  have h198 : a.eval (.tmp 198) = .bool false := hn.2.1
                  clear hn
                  refine wants_plain rfl ?_
                  exact grown_pick _ _ _ false rfl h192 h198
                refine steps_cons (fun a w hk hn => ?_) ?_
                · have h199 : a.eval (.tmp 199) = .bool false := hn.1
                  clear hn
                  refine wants_plain rfl ?_
                  exact grown_move (.tmp 199) rfl h199
                refine steps_cons (fun a w hk hn => ?_) ?_
                · have h8 : a.eval (.tmp 8) = .pointer (some ⟨p, 0, none⟩) := hn.1
                  have h200 : a.eval (.tmp 200) = .bool false := hn.2.1
                  clear hn
                  refine wants_guard (d := 200) rfl rfl h200 ?_
                  exact grown_move (.tmp 8) rfl h8
                refine steps_cons (fun a w hk hn => ?_) ?_
                · have h201 : a.eval (.tmp 201) = .pointer (some ⟨p, 0, none⟩) := hn.1
                  have h200 : a.eval (.tmp 200) = .bool false := hn.2.1
                  clear hn
                  refine wants_guard (d := 200) rfl rfl h200 ?_
                  refine grown_call (f := 26) rfl Try.func26 (by kernel_rfl) (by kernel_rfl) ?_
                  simp only [List.map_toArray, List.map_cons, List.map_nil, h201]
                  refine (syncedz_any (unhide HD w hk) (unhide HSY)).mono ?_
                  rintro e w' ⟨rfl, rfl⟩
                  exact ⟨_, rfl, Kp.refl _ _, rfl⟩
                refine steps_cons (fun a w hk hn => ?_) ?_
                · have h15 : a.eval (.tmp 15) = .int .i64 sy := hn.1
                  have h200 : a.eval (.tmp 200) = .bool false := hn.2.1
                  clear hn
                  refine wants_guard (d := 200) rfl rfl h200 ?_
                  exact grown_move (.tmp 15) rfl h15
                refine steps_cons (fun a w hk hn => ?_) ?_
                · have h202 : a.eval (.tmp 202) = .int .i64 sy := hn.1
                  have h203 : a.eval (.tmp 203) = .int .i64 sy := hn.2.1
                  have h200 : a.eval (.tmp 200) = .bool false := hn.2.2.1
                  clear hn
                  refine wants_guard (d := 200) rfl rfl h200 ?_
                  refine grown_run (v := .bool false) ?_ (Kp.refl _ _) rfl
                  obtain ⟨ρ, hρ, hc, hf, hg⟩ := eval_is a
                  rw [hρ] at h202 h203 ⊢
                  simp [go_sem, h202, h203]
                refine steps_cons (fun a w hk hn => ?_) ?_
                · have h200 : a.eval (.tmp 200) = .bool false := hn.1
                  have h204 : a.eval (.tmp 204) = .bool false := hn.2.1
                  clear hn
                  refine wants_plain rfl ?_
                  exact grown_pick _ _ _ false rfl h200 h204
                refine steps_cons (fun a w hk hn => ?_) ?_
                · have h205 : a.eval (.tmp 205) = .bool false := hn.1
                  clear hn
                  refine wants_plain rfl ?_
                  exact grown_move (.tmp 205) rfl h205
                refine steps_cons (fun a w hk hn => ?_) ?_
                · have h10 : a.eval (.tmp 10) = .pointer (some ⟨j, 0, none⟩) := hn.1
                  have h206 : a.eval (.tmp 206) = .bool false := hn.2.1
                  clear hn
                  refine wants_guard (d := 206) rfl rfl h206 ?_
                  exact grown_move (.tmp 10) rfl h10
                refine steps_cons (fun a w hk hn => ?_) ?_
                · have h207 : a.eval (.tmp 207) = .pointer (some ⟨j, 0, none⟩) := hn.1
                  have h206 : a.eval (.tmp 206) = .bool false := hn.2.1
                  clear hn
                  refine wants_guard (d := 206) rfl rfl h206 ?_
                  refine grown_call (f := 16) rfl Try.func16 (by kernel_rfl) (by kernel_rfl) ?_
                  simp only [List.map_toArray, List.map_cons, List.map_nil, h207]
                  refine (jcountz_any (unhide HJn w hk) (unhide HCT)).mono ?_
                  rintro e w' ⟨rfl, rfl⟩
                  exact ⟨_, rfl, Kp.refl _ _, rfl⟩
                refine steps_cons (fun a w hk hn => ?_) ?_
                · have h14 : a.eval (.tmp 14) = .int .i64 ct1 := hn.1
                  have h206 : a.eval (.tmp 206) = .bool false := hn.2.1
                  clear hn
                  refine wants_guard (d := 206) rfl rfl h206 ?_
                  exact grown_move (.tmp 14) rfl h14
                refine steps_cons (fun a w hk hn => ?_) ?_
                · have h208 : a.eval (.tmp 208) = .int .i64 ct1 := hn.1
                  have h209 : a.eval (.tmp 209) = .int .i64 ct1 := hn.2.1
                  have h206 : a.eval (.tmp 206) = .bool false := hn.2.2.1
                  clear hn
                  refine wants_guard (d := 206) rfl rfl h206 ?_
                  refine grown_run (v := .bool false) ?_ (Kp.refl _ _) rfl
                  obtain ⟨ρ, hρ, hc, hf, hg⟩ := eval_is a
                  rw [hρ] at h208 h209 ⊢
                  simp [go_sem, h208, h209]
                refine steps_cons (fun a w hk hn => ?_) ?_
                · have h206 : a.eval (.tmp 206) = .bool false := hn.1
                  have h210 : a.eval (.tmp 210) = .bool false := hn.2.1
                  clear hn
                  refine wants_plain rfl ?_
                  exact grown_pick _ _ _ false rfl h206 h210
                exact trivial
              intro W1 hkW1
              rintro _ rfl
              rintro _ rfl
              rintro _ rfl
              rintro _ rfl
              rintro _ rfl
              intro v194 h194
              rintro _ rfl
              rintro _ rfl
              rintro _ rfl
              rintro _ rfl
              rintro _ rfl
              rintro _ rfl
              rintro _ rfl
              rintro _ rfl
              rintro _ rfl
              rintro _ rfl
              rintro _ rfl
              rintro _ rfl
              rintro _ rfl
              rintro _ rfl
              rintro _ rfl
              rintro _ rfl
              rintro _ rfl
              refine fin_nil ?_
              simp only [Act.put, List.set_cons_zero, List.set_cons_succ, List.setIfInBounds_toArray]
              have HL9 := hide (HL8.out.on ((kp_drew w8).trans hkW1))
              clear hkW1
              go_wp2_with fail
              go_roundw
              case rel => exact ⟨k + 1, cN + 1, ct1, sy, m5, c5, a5, v8, Y, dn1, by omega, by omega, by omega, by omega, rfl, rfl, rfl, rfl, rfl, by go_num, HLT1.out, HL9.out⟩
              case measure => simp [intOf]; omega
            · obtain rfl : en = 0 := hen
              obtain rfl : dn1 = false := hdn1 rfl
              clear hct1 hdn1
              have HLTS : Hid (0 < arm → ((cN + 1 : Nat) : Int) < arm) := HLT1.out rfl
              have HLEN : Hid (m5 = Y.length) := HL1.out.row.len
              go_upto_if 146 with fail
              go_cut [13, 15, 16, 20] from 53 to 211 (fun c syv dnv want wx => ∃ (c2 sy2 : Nat) (er2 dn2 : Bool) (en2 : Int), c = .int .i64 c2 ∧ syv = .int .i64 sy2 ∧ dnv = .bool dn2 ∧ want = .int .i64 en2 ∧ en2 = (if er2 then 0 else 13) ∧ wx = wc ∧ c2 ≤ 2 * (k + 1) ∧ Hid (dn2 = false → 0 < arm → (c2 : Int) < arm) ∧ Hid (dd.add (recP C) = (er2, ⟨Y, sy2, q, rr arm c2 dn2, dn2⟩)))
              case first =>
                by_cases hg : 0 < arm ∧ ((cN + 1 : Nat) : Int) + 1 = arm
                · have harm0 : 0 < arm := hg.1
                  have hgd : (((cN : Int) + 1) + 1 == arm) = true := by simp; omega
                  have HG := hide hg.2
                  clear hg
                  have hs : (⟨Y, sy, q, rr arm ((cN + 1 : Nat) : Int) false, false⟩ : Dk).sync = (false, ⟨Y, sy, q, rr arm (((cN + 1) + 1 : Nat) : Int) true, true⟩) := by rw [show (((cN + 1) + 1 : Nat) : Int) = ((cN + 1 : Nat) : Int) + 1 from by omega]; exact Dk.jsync_gone harm0 HG.out
                  have HS := hide (Dk.add_then HE.out hs)
                  clear hs
                  go_wp2_with fail
                  go_meet
                  case rel => exact ⟨cN + 1 + 1, sy, false, true, 13, by go_num, rfl, rfl, rfl, rfl, rfl, by omega, (fun h => by cases h), HS⟩
                · have HNG := hide hg
                  have HUP : Hid (0 < arm → (((cN + 1) + 1 : Nat) : Int) < arm) := (fun h => by have := HLTS.out h; omega)
                  rcases (by omega : ¬ 0 < arm ∨ (0 < arm ∧ ¬ ((cN + 1 : Nat) : Int) + 1 = arm)) with h0 | ⟨h0, h1⟩
                  · have harm : decide (0 < arm) = false := decide_eq_false h0
                    clear hg
                    have hs : (⟨Y, sy, q, rr arm ((cN + 1 : Nat) : Int) false, false⟩ : Dk).sync = (true, ⟨Y, (Y).length, q, rr arm (((cN + 1) + 1 : Nat) : Int) false, false⟩) := by rw [show (((cN + 1) + 1 : Nat) : Int) = ((cN + 1 : Nat) : Int) + 1 from by omega]; exact Dk.jsync_ok HLTS.out HNG.out
                    have HS := hide (Dk.add_then HE.out hs)
                    clear hs
                    go_wp2_with fail
                    go_meet
                    case rel => exact ⟨cN + 1 + 1, (Y).length, true, false, 0, by go_num, congrArg (Value.int .i64) (by have := HLEN.out; omega), rfl, rfl, rfl, rfl, by omega, (fun _ => HUP.out), HS⟩
                  · have hne : (((cN : Int) + 1) + 1 == arm) = false := beq_eq_false_iff_ne.2 (by omega)
                    clear hg h1
                    have hs : (⟨Y, sy, q, rr arm ((cN + 1 : Nat) : Int) false, false⟩ : Dk).sync = (true, ⟨Y, (Y).length, q, rr arm (((cN + 1) + 1 : Nat) : Int) false, false⟩) := by rw [show (((cN + 1) + 1 : Nat) : Int) = ((cN + 1 : Nat) : Int) + 1 from by omega]; exact Dk.jsync_ok HLTS.out HNG.out
                    have HS := hide (Dk.add_then HE.out hs)
                    clear hs
                    go_wp2_with fail
                    go_meet
                    case rel => exact ⟨cN + 1 + 1, (Y).length, true, false, 0, by go_num, congrArg (Value.int .i64) (by have := HLEN.out; omega), rfl, rfl, rfl, rfl, by omega, (fun _ => HUP.out), HS⟩
              case rest =>
                obtain ⟨c2, sy2, er2, dn2, en2, rfl, rfl, rfl, rfl, hen2, hwx, hc2, HLT2, HEQ⟩ := hcut
                subst hwx
                have HA := hide (jadd_any HL1.out.jn (HZC.out _ HL1.out.jn.nw.kp) HCB.out (by have := HCl.out; omega) (by omega) er2 HEQ.out en2 hen2 ct1 (by rw [HE.out]; exact HCT1.out))
                have HEN := hide hen2
                clear hen2
                go_wp2_with (first
                  | (go_at_call 13; refine HA.out.mono ?_; rintro ee w8 ⟨rfl, v8, J8, T8⟩; have HL8 := hide (HL1.out.disk J8 T8); clear HA J8 T8))
                obtain ⟨T, hT⟩ : ∃ T, T = strOfNums Y := ⟨_, rfl⟩
                have HT := hide hT
                have HZ : Hid (∀ w', Kp [] w8.drew w' → Sl w' (.slice a5 m5 c5) Y) := fun w' k' => HL8.out.row.sl.kept ((kp_drew w8).trans k') (by simp)
                have HD := hide (fun w' (k' : Kp [] w8.drew w') => HL8.out.jn.nw.dk.keptN ((kp_drew w8).trans k'))
                have HJn := hide (fun w' (k' : Kp [] w8.drew w') => HL8.out.jn.on ((kp_drew w8).trans k'))
                have HSY : Hid (((sy2 : Nat) : Int) = (sy2 : Int)) := rfl
                have HCT : Hid (((ct1 : Nat) : Int) = (ct1 : Int)) := rfl
                clear hT
                refine region_grow Try.mixed [Is (.int .i64 en2), Is (.int .i64 en2), Is (.bool false), Is (.bool false), Is (.pointer (some ⟨p, 0, none⟩)), SlT (Y), Is (.string T), Is (.slice a5 m5 c5), Is (.string T), Is (.bool false), Is (.bool false), Is (.bool false), Is (.pointer (some ⟨p, 0, none⟩)), Is (.int .i64 sy2), Is (.int .i64 sy2), Is (.bool false), Is (.bool false), Is (.bool false), Is (.pointer (some ⟨j, 0, none⟩)), Is (.int .i64 ct1), Is (.int .i64 ct1), Is (.bool false), Is (.bool false)] [[(24, none)], [(20, none)], [(189, some 0), (190, some 1)], [(191, some 2)], [(8, none), (192, some 3)], [(193, some 4), (192, some 3)], [(194, some 5), (192, some 3)], [(17, none), (192, some 3)], [(196, some 7), (192, some 3)], [(195, some 6), (197, some 8), (192, some 3)], [(192, some 3), (198, some 9)], [(199, some 10)], [(8, none), (200, some 11)], [(201, some 12), (200, some 11)], [(15, none), (200, some 11)], [(202, some 13), (203, some 14), (200, some 11)], [(200, some 11), (204, some 15)], [(205, some 16)], [(10, none), (206, some 17)], [(207, some 18), (206, some 17)], [(14, none), (206, some 17)], [(208, some 19), (209, some 20), (206, some 17)], [(206, some 17), (210, some 21)]] (by kernel_rfl) ?_ ?_ ?_
                · simp only [List.mem_cons, List.not_mem_nil, or_false]
                  intro R hR
                  rcases hR with rfl | rfl | rfl | rfl | rfl | rfl | rfl | rfl | rfl | rfl | rfl | rfl | rfl | rfl | rfl | rfl | rfl | rfl | rfl | rfl | rfl | rfl | rfl <;> first | exact stable_is _ | exact stable_sl _
                · refine steps_cons (fun a w hk hn => ?_) ?_
                  · have h24 : a.eval (.tmp 24) = .int .i64 en2 := hn.1
                    clear hn
                    refine wants_plain rfl ?_
                    exact grown_move (.tmp 24) rfl h24
                  refine steps_cons (fun a w hk hn => ?_) ?_
                  · have h20 : a.eval (.tmp 20) = .int .i64 en2 := hn.1
                    clear hn
                    refine wants_plain rfl ?_
                    exact grown_move (.tmp 20) rfl h20
                  refine steps_cons (fun a w hk hn => ?_) ?_
                  · have h189 : a.eval (.tmp 189) = .int .i64 en2 := hn.1
                    have h190 : a.eval (.tmp 190) = .int .i64 en2 := hn.2.1
                    clear hn
                    refine wants_plain rfl ?_
                    refine grown_run (v := .bool false) ?_ (Kp.refl _ _) rfl
                    obtain ⟨ρ, hρ, hc, hf, hg⟩ := eval_is a
                    rw [hρ] at h189 h190 ⊢
                    simp [go_sem, h189, h190]
                  refine steps_cons (fun a w hk hn => ?_) ?_
                  · have h191 : a.eval (.tmp 191) = .bool false := hn.1
                    clear hn
                    refine wants_plain rfl ?_
                    exact grown_move (.tmp 191) rfl h191
                  refine steps_cons (fun a w hk hn => ?_) ?_
                  · have h8 : a.eval (.tmp 8) = .pointer (some ⟨p, 0, none⟩) := hn.1
                    have h192 : a.eval (.tmp 192) = .bool false := hn.2.1
                    clear hn
                    refine wants_guard (d := 192) rfl rfl h192 ?_
                    exact grown_move (.tmp 8) rfl h8
                  refine steps_cons (fun a w hk hn => ?_) ?_
                  · have h193 : a.eval (.tmp 193) = .pointer (some ⟨p, 0, none⟩) := hn.1
                    have h192 : a.eval (.tmp 192) = .bool false := hn.2.1
                    clear hn
                    refine wants_guard (d := 192) rfl rfl h192 ?_
                    refine grown_call (f := 25) rfl Try.func25 (by kernel_rfl) (by kernel_rfl) ?_
                    simp only [List.map_toArray, List.map_cons, List.map_nil, h193]
                    refine (dbytes_any p v8 _ _ w (unhide HD w hk)).mono ?_
                    rintro e w' ⟨ao, m, c, rfl, R, K⟩
                    exact ⟨_, rfl, K, R.sl⟩
                  refine steps_cons (fun a w hk hn => ?_) ?_
                  · have h194 : Sl w (a.eval (.tmp 194)) (Y) := hn.1
                    have h192 : a.eval (.tmp 192) = .bool false := hn.2.1
                    clear hn
                    refine wants_guard (d := 192) rfl rfl h192 ?_
                    exact grown_conv (.tmp 194) _ _ 5 _ rfl h194 Try.underlying22 Try.underlying5 Try.underlying9 (congrArg Value.string (unhide HT).symm)
                  refine steps_cons (fun a w hk hn => ?_) ?_
                  · have h17 : a.eval (.tmp 17) = .slice a5 m5 c5 := hn.1
                    have h192 : a.eval (.tmp 192) = .bool false := hn.2.1
                    clear hn
                    refine wants_guard (d := 192) rfl rfl h192 ?_
                    exact grown_move (.tmp 17) rfl h17
                  refine steps_cons (fun a w hk hn => ?_) ?_
                  · have h196 : a.eval (.tmp 196) = .slice a5 m5 c5 := hn.1
                    have h192 : a.eval (.tmp 192) = .bool false := hn.2.1
                    clear hn
                    refine wants_guard (d := 192) rfl rfl h192 ?_
                    exact grown_conv (.tmp 196) _ _ 5 (Y) rfl (by rw [h196]; exact unhide HZ w hk) Try.underlying22 Try.underlying5 Try.underlying9 (congrArg Value.string (unhide HT).symm)
                  refine steps_cons (fun a w hk hn => ?_) ?_
                  · have h195 : a.eval (.tmp 195) = .string T := hn.1
                    have h197 : a.eval (.tmp 197) = .string T := hn.2.1
                    have h192 : a.eval (.tmp 192) = .bool false := hn.2.2.1
                    clear hn
                    refine wants_guard (d := 192) rfl rfl h192 ?_
                    refine grown_run (v := .bool false) ?_ (Kp.refl _ _) rfl
                    obtain ⟨ρ, hρ, hc, hf, hg⟩ := eval_is a
                    rw [hρ] at h195 h197 ⊢
                    simp [go_sem, h195, h197]
                  refine steps_cons (fun a w hk hn => ?_) ?_
                  · have h192 : a.eval (.tmp 192) = .bool false := hn.1
                    have h198 : a.eval (.tmp 198) = .bool false := hn.2.1
                    clear hn
                    refine wants_plain rfl ?_
                    exact grown_pick _ _ _ false rfl h192 h198
                  refine steps_cons (fun a w hk hn => ?_) ?_
                  · have h199 : a.eval (.tmp 199) = .bool false := hn.1
                    clear hn
                    refine wants_plain rfl ?_
                    exact grown_move (.tmp 199) rfl h199
                  refine steps_cons (fun a w hk hn => ?_) ?_
                  · have h8 : a.eval (.tmp 8) = .pointer (some ⟨p, 0, none⟩) := hn.1
                    have h200 : a.eval (.tmp 200) = .bool false := hn.2.1
                    clear hn
                    refine wants_guard (d := 200) rfl rfl h200 ?_
                    exact grown_move (.tmp 8) rfl h8
                  refine steps_cons (fun a w hk hn => ?_) ?_
                  · have h201 : a.eval (.tmp 201) = .pointer (some ⟨p, 0, none⟩) := hn.1
                    have h200 : a.eval (.tmp 200) = .bool false := hn.2.1
                    clear hn
                    refine wants_guard (d := 200) rfl rfl h200 ?_
                    refine grown_call (f := 26) rfl Try.func26 (by kernel_rfl) (by kernel_rfl) ?_
                    simp only [List.map_toArray, List.map_cons, List.map_nil, h201]
                    refine (syncedz_any (unhide HD w hk) (unhide HSY)).mono ?_
                    rintro e w' ⟨rfl, rfl⟩
                    exact ⟨_, rfl, Kp.refl _ _, rfl⟩
                  refine steps_cons (fun a w hk hn => ?_) ?_
                  · have h15 : a.eval (.tmp 15) = .int .i64 sy2 := hn.1
                    have h200 : a.eval (.tmp 200) = .bool false := hn.2.1
                    clear hn
                    refine wants_guard (d := 200) rfl rfl h200 ?_
                    exact grown_move (.tmp 15) rfl h15
                  refine steps_cons (fun a w hk hn => ?_) ?_
                  · have h202 : a.eval (.tmp 202) = .int .i64 sy2 := hn.1
                    have h203 : a.eval (.tmp 203) = .int .i64 sy2 := hn.2.1
                    have h200 : a.eval (.tmp 200) = .bool false := hn.2.2.1
                    clear hn
                    refine wants_guard (d := 200) rfl rfl h200 ?_
                    refine grown_run (v := .bool false) ?_ (Kp.refl _ _) rfl
                    obtain ⟨ρ, hρ, hc, hf, hg⟩ := eval_is a
                    rw [hρ] at h202 h203 ⊢
                    simp [go_sem, h202, h203]
                  refine steps_cons (fun a w hk hn => ?_) ?_
                  · have h200 : a.eval (.tmp 200) = .bool false := hn.1
                    have h204 : a.eval (.tmp 204) = .bool false := hn.2.1
                    clear hn
                    refine wants_plain rfl ?_
                    exact grown_pick _ _ _ false rfl h200 h204
                  refine steps_cons (fun a w hk hn => ?_) ?_
                  · have h205 : a.eval (.tmp 205) = .bool false := hn.1
                    clear hn
                    refine wants_plain rfl ?_
                    exact grown_move (.tmp 205) rfl h205
                  refine steps_cons (fun a w hk hn => ?_) ?_
                  · have h10 : a.eval (.tmp 10) = .pointer (some ⟨j, 0, none⟩) := hn.1
                    have h206 : a.eval (.tmp 206) = .bool false := hn.2.1
                    clear hn
                    refine wants_guard (d := 206) rfl rfl h206 ?_
                    exact grown_move (.tmp 10) rfl h10
                  refine steps_cons (fun a w hk hn => ?_) ?_
                  · have h207 : a.eval (.tmp 207) = .pointer (some ⟨j, 0, none⟩) := hn.1
                    have h206 : a.eval (.tmp 206) = .bool false := hn.2.1
                    clear hn
                    refine wants_guard (d := 206) rfl rfl h206 ?_
                    refine grown_call (f := 16) rfl Try.func16 (by kernel_rfl) (by kernel_rfl) ?_
                    simp only [List.map_toArray, List.map_cons, List.map_nil, h207]
                    refine (jcountz_any (unhide HJn w hk) (unhide HCT)).mono ?_
                    rintro e w' ⟨rfl, rfl⟩
                    exact ⟨_, rfl, Kp.refl _ _, rfl⟩
                  refine steps_cons (fun a w hk hn => ?_) ?_
                  · have h14 : a.eval (.tmp 14) = .int .i64 ct1 := hn.1
                    have h206 : a.eval (.tmp 206) = .bool false := hn.2.1
                    clear hn
                    refine wants_guard (d := 206) rfl rfl h206 ?_
                    exact grown_move (.tmp 14) rfl h14
                  refine steps_cons (fun a w hk hn => ?_) ?_
                  · have h208 : a.eval (.tmp 208) = .int .i64 ct1 := hn.1
                    have h209 : a.eval (.tmp 209) = .int .i64 ct1 := hn.2.1
                    have h206 : a.eval (.tmp 206) = .bool false := hn.2.2.1
                    clear hn
                    refine wants_guard (d := 206) rfl rfl h206 ?_
                    refine grown_run (v := .bool false) ?_ (Kp.refl _ _) rfl
                    obtain ⟨ρ, hρ, hc, hf, hg⟩ := eval_is a
                    rw [hρ] at h208 h209 ⊢
                    simp [go_sem, h208, h209]
                  refine steps_cons (fun a w hk hn => ?_) ?_
                  · have h206 : a.eval (.tmp 206) = .bool false := hn.1
                    have h210 : a.eval (.tmp 210) = .bool false := hn.2.1
                    clear hn
                    refine wants_plain rfl ?_
                    exact grown_pick _ _ _ false rfl h206 h210
                  exact trivial
                intro W1 hkW1
                rintro _ rfl
                rintro _ rfl
                rintro _ rfl
                rintro _ rfl
                rintro _ rfl
                intro v194 h194
                rintro _ rfl
                rintro _ rfl
                rintro _ rfl
                rintro _ rfl
                rintro _ rfl
                rintro _ rfl
                rintro _ rfl
                rintro _ rfl
                rintro _ rfl
                rintro _ rfl
                rintro _ rfl
                rintro _ rfl
                rintro _ rfl
                rintro _ rfl
                rintro _ rfl
                rintro _ rfl
                rintro _ rfl
                refine fin_nil ?_
                simp only [Act.put, List.set_cons_zero, List.set_cons_succ, List.setIfInBounds_toArray]
                have HL9 := hide (HL8.out.on ((kp_drew w8).trans hkW1))
                clear hkW1
                go_wp2_with fail
                go_roundw
                case rel => exact ⟨k + 1, c2, ct1, sy2, m5, c5, a5, v8, Y, dn2, by omega, by omega, by omega, by omega, rfl, rfl, rfl, rfl, rfl, by go_num, HLT2.out, HL9.out⟩
                case measure => simp [intOf]; omega
      · by_cases h2 : kd = 2
        · subst h2
          as_aux_lemma =>
            go_upto_if 82 with (first | (go_at_call 20; refine HCt.out.mono ?_; rintro ee w4 ⟨rfl, hw4⟩; subst w4; clear HCt) | fail)
            go_cut [13, 14, 16, 17, 20] from 53 to 211 (fun c ctv dnv x want wc => ∃ (m5 c5 ct1 : Nat) (a5 : Option Addr) (Y : List Int) (er dn1 : Bool) (en : Int), c = .int .i64 ((cN + 1 : Nat) : Int) ∧ ctv = .int .i64 ct1 ∧ dnv = .bool dn1 ∧ x = .slice a5 m5 c5 ∧ want = .int .i64 en ∧ en = (if er then 0 else 13) ∧ ct1 = (if er then ct + 1 else ct) ∧ (er = true → dn1 = false) ∧ Hid ((⟨X, sy, q, rr arm cN dn, dn⟩ : Dk).app (recP C) = (er, ⟨Y, sy, q, rr arm ((cN + 1 : Nat) : Int) dn1, dn1⟩)) ∧ Hid (dn1 = false → 0 < arm → (((cN + 1 : Nat)) : Int) < arm) ∧ Hid (Lj w w3 wc p j v ⟨X, sy, q, rr arm cN dn, dn⟩ ct (.slice a5 m5 c5) Y))
            case first =>
              as_aux_lemma =>
                cases dn
                · have HLT : Hid (0 < arm → (cN : Int) < arm) := HLT0.out rfl
                  by_cases hg : 0 < arm ∧ (cN : Int) + 1 = arm
                  · have harm0 : 0 < arm := hg.1
                    have hgd : ((cN : Int) + 1 == arm) = true := by simp [hg.2]
                    have HG := hide hg.2
                    clear hg
                    by_cases hf : m + 8 + nb ≤ q
                    · have hfit : (m : Int) + 8 + (nb : Int) ≤ (q : Int) := by omega
                      have he : (⟨X, sy, q, rr arm cN false, false⟩ : Dk).app (recP C) = (false, (⟨X ++ recP C, sy, q, rr arm ((cN + 1 : Nat) : Int) true, true⟩ : Dk)) := by rw [show (((cN + 1 : Nat)) : Int) = (cN : Int) + 1 from by omega]; exact Dk.japp_gone _ harm0 HG.out (by have := HM.out; have := HRL.out; omega)
                      have HE := hide he
                      clear he
                      go_wp2_with (first
                        | (go_at_call 23; refine HRc.out.mono ?_; rintro ee w4 ⟨a4, m4, c4, rfl, R4, K4⟩; have HL4 := hide (HLJ.out.on K4); have HR4 := hide R4.sl; clear HRc R4 K4 r0 r1)
                        | (at_builtin; refine wpList_append_row rfl (.tmp 117) (.tmp 119) rfl w3.heap.size _ _ rfl HL4.out.row _ _ rfl HR4.out (by have := HM.out; have := HRL.out; omega) HL4.out.sz ?_; intro a5 m5 c5 w5 R5 S5; have HL5 := hide (HL4.out.more R5 S5); clear R5 S5 HL4 HR4 HLJ))
                      go_meet
                      case rel => exact ⟨m5, c5, ct, a5, _, false, true, 13, by go_num, rfl, rfl, rfl, rfl, rfl, rfl, (fun h => by cases h), HE, (fun h => by cases h), HL5⟩
                    · have hfitd : decide ((m : Int) + 8 + (nb : Int) ≤ (q : Int)) = false := decide_eq_false (by omega)
                      have he : (⟨X, sy, q, rr arm cN false, false⟩ : Dk).app (recP C) = (false, (⟨X, sy, q, rr arm ((cN + 1 : Nat) : Int) true, true⟩ : Dk)) := by rw [show (((cN + 1 : Nat)) : Int) = (cN : Int) + 1 from by omega]; exact Dk.japp_gonef _ harm0 HG.out (by have := HM.out; have := HRL.out; omega)
                      have HE := hide he
                      clear he
                      go_wp2_with fail
                      go_meet
                      case rel => exact ⟨m, cx, ct, ax, _, false, true, 13, by go_num, rfl, rfl, rfl, rfl, rfl, rfl, (fun h => by cases h), HE, (fun h => by cases h), HLJ⟩
                  · have HNG := hide hg
                    have HUP : Hid (0 < arm → ((cN + 1 : Nat) : Int) < arm) := (fun h => by have := HLT.out h; omega)
                    rcases (by omega : ¬ 0 < arm ∨ (0 < arm ∧ ¬ (cN : Int) + 1 = arm)) with h0 | ⟨h0, h1⟩
                    · have harm : decide (0 < arm) = false := decide_eq_false h0
                      clear hg
                      by_cases hf : m + 8 + nb ≤ q
                      · have hfit : (m : Int) + 8 + (nb : Int) ≤ (q : Int) := by omega
                        have he : (⟨X, sy, q, rr arm cN false, false⟩ : Dk).app (recP C) = (true, (⟨X ++ recP C, sy, q, rr arm ((cN + 1 : Nat) : Int) false, false⟩ : Dk)) := by rw [show (((cN + 1 : Nat)) : Int) = (cN : Int) + 1 from by omega]; exact Dk.japp_ok _ HLT.out HNG.out (by have := HM.out; have := HRL.out; omega)
                        have HE := hide he
                        clear he
                        go_wp2_with (first
                          | (go_at_call 23; refine HRc.out.mono ?_; rintro ee w4 ⟨a4, m4, c4, rfl, R4, K4⟩; have HL4 := hide (HLJ.out.on K4); have HR4 := hide R4.sl; clear HRc R4 K4 r0 r1)
                          | (at_builtin; refine wpList_append_row rfl (.tmp 117) (.tmp 119) rfl w3.heap.size _ _ rfl HL4.out.row _ _ rfl HR4.out (by have := HM.out; have := HRL.out; omega) HL4.out.sz ?_; intro a5 m5 c5 w5 R5 S5; have HL5 := hide (HL4.out.more R5 S5); clear R5 S5 HL4 HR4 HLJ))
                        go_meet
                        case rel => exact ⟨m5, c5, ct + 1, a5, _, true, false, 0, by go_num, by go_num, rfl, rfl, rfl, rfl, rfl, (fun _ => rfl), HE, (fun _ => HUP.out), HL5⟩
                      · have hfitd : decide ((m : Int) + 8 + (nb : Int) ≤ (q : Int)) = false := decide_eq_false (by omega)
                        have he : (⟨X, sy, q, rr arm cN false, false⟩ : Dk).app (recP C) = (false, (⟨X, sy, q, rr arm ((cN + 1 : Nat) : Int) false, false⟩ : Dk)) := by rw [show (((cN + 1 : Nat)) : Int) = (cN : Int) + 1 from by omega]; exact Dk.japp_full _ HLT.out HNG.out (by have := HM.out; have := HRL.out; omega)
                        have HE := hide he
                        clear he
                        go_wp2_with fail
                        go_meet
                        case rel => exact ⟨m, cx, ct, ax, _, false, false, 13, by go_num, rfl, rfl, rfl, rfl, rfl, rfl, (fun h => by cases h), HE, (fun _ => HUP.out), HLJ⟩
                    · have hne : ((cN : Int) + 1 == arm) = false := beq_eq_false_iff_ne.2 h1
                      clear hg h1
                      by_cases hf : m + 8 + nb ≤ q
                      · have hfit : (m : Int) + 8 + (nb : Int) ≤ (q : Int) := by omega
                        have he : (⟨X, sy, q, rr arm cN false, false⟩ : Dk).app (recP C) = (true, (⟨X ++ recP C, sy, q, rr arm ((cN + 1 : Nat) : Int) false, false⟩ : Dk)) := by rw [show (((cN + 1 : Nat)) : Int) = (cN : Int) + 1 from by omega]; exact Dk.japp_ok _ HLT.out HNG.out (by have := HM.out; have := HRL.out; omega)
                        have HE := hide he
                        clear he
                        go_wp2_with (first
                          | (go_at_call 23; refine HRc.out.mono ?_; rintro ee w4 ⟨a4, m4, c4, rfl, R4, K4⟩; have HL4 := hide (HLJ.out.on K4); have HR4 := hide R4.sl; clear HRc R4 K4 r0 r1)
                          | (at_builtin; refine wpList_append_row rfl (.tmp 117) (.tmp 119) rfl w3.heap.size _ _ rfl HL4.out.row _ _ rfl HR4.out (by have := HM.out; have := HRL.out; omega) HL4.out.sz ?_; intro a5 m5 c5 w5 R5 S5; have HL5 := hide (HL4.out.more R5 S5); clear R5 S5 HL4 HR4 HLJ))
                        go_meet
                        case rel => exact ⟨m5, c5, ct + 1, a5, _, true, false, 0, by go_num, by go_num, rfl, rfl, rfl, rfl, rfl, (fun _ => rfl), HE, (fun _ => HUP.out), HL5⟩
                      · have hfitd : decide ((m : Int) + 8 + (nb : Int) ≤ (q : Int)) = false := decide_eq_false (by omega)
                        have he : (⟨X, sy, q, rr arm cN false, false⟩ : Dk).app (recP C) = (false, (⟨X, sy, q, rr arm ((cN + 1 : Nat) : Int) false, false⟩ : Dk)) := by rw [show (((cN + 1 : Nat)) : Int) = (cN : Int) + 1 from by omega]; exact Dk.japp_full _ HLT.out HNG.out (by have := HM.out; have := HRL.out; omega)
                        have HE := hide he
                        clear he
                        go_wp2_with fail
                        go_meet
                        case rel => exact ⟨m, cx, ct, ax, _, false, false, 13, by go_num, rfl, rfl, rfl, rfl, rfl, rfl, (fun h => by cases h), HE, (fun _ => HUP.out), HLJ⟩
                · have he : (⟨X, sy, q, rr arm cN true, true⟩ : Dk).app (recP C) = (false, (⟨X, sy, q, rr arm ((cN + 1 : Nat) : Int) true, true⟩ : Dk)) := by rw [show (((cN + 1 : Nat)) : Int) = (cN : Int) + 1 from by omega]; exact Dk.japp_down _
                  have HE := hide he
                  clear he
                  go_wp2_with fail
                  go_meet
                  case rel => exact ⟨m, cx, ct, ax, _, false, true, 13, by go_num, rfl, rfl, rfl, rfl, rfl, rfl, (fun h => by cases h), HE, (fun h => by cases h), HLJ⟩
            case rest =>
              obtain ⟨m5, c5, ct1, a5, Y, er, dn1, en, rfl, rfl, rfl, rfl, rfl, hen, hct1, hdn1, HE, HLT1, HL1⟩ := hcut
              have hct1' : ct1 ≤ ct + 1 := by rw [hct1]; split <;> omega
              have HCT1 := hide hct1
              obtain ⟨r0, -, -⟩ := HR.out wc HL1.out.jn.nw.kp
              clear r1 HLJ HRc
              cases er
              · obtain rfl : en = 13 := hen
                clear hct1 hdn1
                have HA := hide (jput_any HL1.out.jn (HZC.out wc HL1.out.jn.nw.kp) HCB.out (by have := HCl.out; omega) (by omega) false HE.out 13 rfl ct1 HCT1.out)
                go_wp2_with (first
                  | (go_at_call 14; refine HA.out.mono ?_; rintro ee w8 ⟨rfl, v8, J8, T8⟩; have HL8 := hide (HL1.out.disk J8 T8); clear HA J8 T8))
                obtain ⟨T, hT⟩ : ∃ T, T = strOfNums Y := ⟨_, rfl⟩
                have HT := hide hT
                have HZ : Hid (∀ w', Kp [] w8.drew w' → Sl w' (.slice a5 m5 c5) Y) := fun w' k' => HL8.out.row.sl.kept ((kp_drew w8).trans k') (by simp)
                have HD := hide (fun w' (k' : Kp [] w8.drew w') => HL8.out.jn.nw.dk.keptN ((kp_drew w8).trans k'))
                have HJn := hide (fun w' (k' : Kp [] w8.drew w') => HL8.out.jn.on ((kp_drew w8).trans k'))
                have HSY : Hid (((sy : Nat) : Int) = (sy : Int)) := rfl
                have HCT : Hid (((ct1 : Nat) : Int) = (ct1 : Int)) := rfl
                clear hT
                refine region_grow Try.mixed [Is (.int .i64 13), Is (.int .i64 13), Is (.bool false), Is (.bool false), Is (.pointer (some ⟨p, 0, none⟩)), SlT (Y), Is (.string T), Is (.slice a5 m5 c5), Is (.string T), Is (.bool false), Is (.bool false), Is (.bool false), Is (.pointer (some ⟨p, 0, none⟩)), Is (.int .i64 sy), Is (.int .i64 sy), Is (.bool false), Is (.bool false), Is (.bool false), Is (.pointer (some ⟨j, 0, none⟩)), Is (.int .i64 ct1), Is (.int .i64 ct1), Is (.bool false), Is (.bool false)] [[(24, none)], [(20, none)], [(189, some 0), (190, some 1)], [(191, some 2)], [(8, none), (192, some 3)], [(193, some 4), (192, some 3)], [(194, some 5), (192, some 3)], [(17, none), (192, some 3)], [(196, some 7), (192, some 3)], [(195, some 6), (197, some 8), (192, some 3)], [(192, some 3), (198, some 9)], [(199, some 10)], [(8, none), (200, some 11)], [(201, some 12), (200, some 11)], [(15, none), (200, some 11)], [(202, some 13), (203, some 14), (200, some 11)], [(200, some 11), (204, some 15)], [(205, some 16)], [(10, none), (206, some 17)], [(207, some 18), (206, some 17)], [(14, none), (206, some 17)], [(208, some 19), (209, some 20), (206, some 17)], [(206, some 17), (210, some 21)]] (by kernel_rfl) ?_ ?_ ?_
                · simp only [List.mem_cons, List.not_mem_nil, or_false]
                  intro R hR
                  rcases hR with rfl | rfl | rfl | rfl | rfl | rfl | rfl | rfl | rfl | rfl | rfl | rfl | rfl | rfl | rfl | rfl | rfl | rfl | rfl | rfl | rfl | rfl | rfl <;> first | exact stable_is _ | exact stable_sl _
                · refine steps_cons (fun a w hk hn => ?_) ?_
                  · have h24 : a.eval (.tmp 24) = .int .i64 13 := hn.1
                    clear hn
                    refine wants_plain rfl ?_
                    exact grown_move (.tmp 24) rfl h24
                  refine steps_cons (fun a w hk hn => ?_) ?_
                  · have h20 : a.eval (.tmp 20) = .int .i64 13 := hn.1
                    clear hn
                    refine wants_plain rfl ?_
                    exact grown_move (.tmp 20) rfl h20
                  refine steps_cons (fun a w hk hn => ?_) ?_
                  · have h189 : a.eval (.tmp 189) = .int .i64 13 := hn.1
                    have h190 : a.eval (.tmp 190) = .int .i64 13 := hn.2.1
                    clear hn
                    refine wants_plain rfl ?_
                    refine grown_run (v := .bool false) ?_ (Kp.refl _ _) rfl
                    obtain ⟨ρ, hρ, hc, hf, hg⟩ := eval_is a
                    rw [hρ] at h189 h190 ⊢
                    simp [go_sem, h189, h190]
                  refine steps_cons (fun a w hk hn => ?_) ?_
                  · have h191 : a.eval (.tmp 191) = .bool false := hn.1
                    clear hn
                    refine wants_plain rfl ?_
                    exact grown_move (.tmp 191) rfl h191
                  refine steps_cons (fun a w hk hn => ?_) ?_
                  · have h8 : a.eval (.tmp 8) = .pointer (some ⟨p, 0, none⟩) := hn.1
                    have h192 : a.eval (.tmp 192) = .bool false := hn.2.1
                    clear hn
                    refine wants_guard (d := 192) rfl rfl h192 ?_
                    exact grown_move (.tmp 8) rfl h8
                  refine steps_cons (fun a w hk hn => ?_) ?_
                  · have h193 : a.eval (.tmp 193) = .pointer (some ⟨p, 0, none⟩) := hn.1
                    have h192 : a.eval (.tmp 192) = .bool false := hn.2.1
                    clear hn
                    refine wants_guard (d := 192) rfl rfl h192 ?_
                    refine grown_call (f := 25) rfl Try.func25 (by kernel_rfl) (by kernel_rfl) ?_
                    simp only [List.map_toArray, List.map_cons, List.map_nil, h193]
                    refine (dbytes_any p v8 _ _ w (unhide HD w hk)).mono ?_
                    rintro e w' ⟨ao, m, c, rfl, R, K⟩
                    exact ⟨_, rfl, K, R.sl⟩
                  refine steps_cons (fun a w hk hn => ?_) ?_
                  · have h194 : Sl w (a.eval (.tmp 194)) (Y) := hn.1
                    have h192 : a.eval (.tmp 192) = .bool false := hn.2.1
                    clear hn
                    refine wants_guard (d := 192) rfl rfl h192 ?_
                    exact grown_conv (.tmp 194) _ _ 5 _ rfl h194 Try.underlying22 Try.underlying5 Try.underlying9 (congrArg Value.string (unhide HT).symm)
                  refine steps_cons (fun a w hk hn => ?_) ?_
                  · have h17 : a.eval (.tmp 17) = .slice a5 m5 c5 := hn.1
                    have h192 : a.eval (.tmp 192) = .bool false := hn.2.1
                    clear hn
                    refine wants_guard (d := 192) rfl rfl h192 ?_
                    exact grown_move (.tmp 17) rfl h17
                  refine steps_cons (fun a w hk hn => ?_) ?_
                  · have h196 : a.eval (.tmp 196) = .slice a5 m5 c5 := hn.1
                    have h192 : a.eval (.tmp 192) = .bool false := hn.2.1
                    clear hn
                    refine wants_guard (d := 192) rfl rfl h192 ?_
                    exact grown_conv (.tmp 196) _ _ 5 (Y) rfl (by rw [h196]; exact unhide HZ w hk) Try.underlying22 Try.underlying5 Try.underlying9 (congrArg Value.string (unhide HT).symm)
                  refine steps_cons (fun a w hk hn => ?_) ?_
                  · have h195 : a.eval (.tmp 195) = .string T := hn.1
                    have h197 : a.eval (.tmp 197) = .string T := hn.2.1
                    have h192 : a.eval (.tmp 192) = .bool false := hn.2.2.1
                    clear hn
                    refine wants_guard (d := 192) rfl rfl h192 ?_
                    refine grown_run (v := .bool false) ?_ (Kp.refl _ _) rfl
                    obtain ⟨ρ, hρ, hc, hf, hg⟩ := eval_is a
                    rw [hρ] at h195 h197 ⊢
                    simp [go_sem, h195, h197]
                  refine steps_cons (fun a w hk hn => ?_) ?_
                  · have h192 : a.eval (.tmp 192) = .bool false := hn.1
                    have h198 : a.eval (.tmp 198) = .bool false := hn.2.1
                    clear hn
                    refine wants_plain rfl ?_
                    exact grown_pick _ _ _ false rfl h192 h198
                  refine steps_cons (fun a w hk hn => ?_) ?_
                  · have h199 : a.eval (.tmp 199) = .bool false := hn.1
                    clear hn
                    refine wants_plain rfl ?_
                    exact grown_move (.tmp 199) rfl h199
                  refine steps_cons (fun a w hk hn => ?_) ?_
                  · have h8 : a.eval (.tmp 8) = .pointer (some ⟨p, 0, none⟩) := hn.1
                    have h200 : a.eval (.tmp 200) = .bool false := hn.2.1
                    clear hn
                    refine wants_guard (d := 200) rfl rfl h200 ?_
                    exact grown_move (.tmp 8) rfl h8
                  refine steps_cons (fun a w hk hn => ?_) ?_
                  · have h201 : a.eval (.tmp 201) = .pointer (some ⟨p, 0, none⟩) := hn.1
                    have h200 : a.eval (.tmp 200) = .bool false := hn.2.1
                    clear hn
                    refine wants_guard (d := 200) rfl rfl h200 ?_
                    refine grown_call (f := 26) rfl Try.func26 (by kernel_rfl) (by kernel_rfl) ?_
                    simp only [List.map_toArray, List.map_cons, List.map_nil, h201]
                    refine (syncedz_any (unhide HD w hk) (unhide HSY)).mono ?_
                    rintro e w' ⟨rfl, rfl⟩
                    exact ⟨_, rfl, Kp.refl _ _, rfl⟩
                  refine steps_cons (fun a w hk hn => ?_) ?_
                  · have h15 : a.eval (.tmp 15) = .int .i64 sy := hn.1
                    have h200 : a.eval (.tmp 200) = .bool false := hn.2.1
                    clear hn
                    refine wants_guard (d := 200) rfl rfl h200 ?_
                    exact grown_move (.tmp 15) rfl h15
                  refine steps_cons (fun a w hk hn => ?_) ?_
                  · have h202 : a.eval (.tmp 202) = .int .i64 sy := hn.1
                    have h203 : a.eval (.tmp 203) = .int .i64 sy := hn.2.1
                    have h200 : a.eval (.tmp 200) = .bool false := hn.2.2.1
                    clear hn
                    refine wants_guard (d := 200) rfl rfl h200 ?_
                    refine grown_run (v := .bool false) ?_ (Kp.refl _ _) rfl
                    obtain ⟨ρ, hρ, hc, hf, hg⟩ := eval_is a
                    rw [hρ] at h202 h203 ⊢
                    simp [go_sem, h202, h203]
                  refine steps_cons (fun a w hk hn => ?_) ?_
                  · have h200 : a.eval (.tmp 200) = .bool false := hn.1
                    have h204 : a.eval (.tmp 204) = .bool false := hn.2.1
                    clear hn
                    refine wants_plain rfl ?_
                    exact grown_pick _ _ _ false rfl h200 h204
                  refine steps_cons (fun a w hk hn => ?_) ?_
                  · have h205 : a.eval (.tmp 205) = .bool false := hn.1
                    clear hn
                    refine wants_plain rfl ?_
                    exact grown_move (.tmp 205) rfl h205
                  refine steps_cons (fun a w hk hn => ?_) ?_
                  · have h10 : a.eval (.tmp 10) = .pointer (some ⟨j, 0, none⟩) := hn.1
                    have h206 : a.eval (.tmp 206) = .bool false := hn.2.1
                    clear hn
                    refine wants_guard (d := 206) rfl rfl h206 ?_
                    exact grown_move (.tmp 10) rfl h10
                  refine steps_cons (fun a w hk hn => ?_) ?_
                  · have h207 : a.eval (.tmp 207) = .pointer (some ⟨j, 0, none⟩) := hn.1
                    have h206 : a.eval (.tmp 206) = .bool false := hn.2.1
                    clear hn
                    refine wants_guard (d := 206) rfl rfl h206 ?_
                    refine grown_call (f := 16) rfl Try.func16 (by kernel_rfl) (by kernel_rfl) ?_
                    simp only [List.map_toArray, List.map_cons, List.map_nil, h207]
                    refine (jcountz_any (unhide HJn w hk) (unhide HCT)).mono ?_
                    rintro e w' ⟨rfl, rfl⟩
                    exact ⟨_, rfl, Kp.refl _ _, rfl⟩
                  refine steps_cons (fun a w hk hn => ?_) ?_
                  · have h14 : a.eval (.tmp 14) = .int .i64 ct1 := hn.1
                    have h206 : a.eval (.tmp 206) = .bool false := hn.2.1
                    clear hn
                    refine wants_guard (d := 206) rfl rfl h206 ?_
                    exact grown_move (.tmp 14) rfl h14
                  refine steps_cons (fun a w hk hn => ?_) ?_
                  · have h208 : a.eval (.tmp 208) = .int .i64 ct1 := hn.1
                    have h209 : a.eval (.tmp 209) = .int .i64 ct1 := hn.2.1
                    have h206 : a.eval (.tmp 206) = .bool false := hn.2.2.1
                    clear hn
                    refine wants_guard (d := 206) rfl rfl h206 ?_
                    refine grown_run (v := .bool false) ?_ (Kp.refl _ _) rfl
                    obtain ⟨ρ, hρ, hc, hf, hg⟩ := eval_is a
                    rw [hρ] at h208 h209 ⊢
                    simp [go_sem, h208, h209]
                  refine steps_cons (fun a w hk hn => ?_) ?_
                  · have h206 : a.eval (.tmp 206) = .bool false := hn.1
                    have h210 : a.eval (.tmp 210) = .bool false := hn.2.1
                    clear hn
                    refine wants_plain rfl ?_
                    exact grown_pick _ _ _ false rfl h206 h210
                  exact trivial
                intro W1 hkW1
                rintro _ rfl
                rintro _ rfl
                rintro _ rfl
                rintro _ rfl
                rintro _ rfl
                intro v194 h194
                rintro _ rfl
                rintro _ rfl
                rintro _ rfl
                rintro _ rfl
                rintro _ rfl
                rintro _ rfl
                rintro _ rfl
                rintro _ rfl
                rintro _ rfl
                rintro _ rfl
                rintro _ rfl
                rintro _ rfl
                rintro _ rfl
                rintro _ rfl
                rintro _ rfl
                rintro _ rfl
                rintro _ rfl
                refine fin_nil ?_
                simp only [Act.put, List.set_cons_zero, List.set_cons_succ, List.setIfInBounds_toArray]
                have HL9 := hide (HL8.out.on ((kp_drew w8).trans hkW1))
                clear hkW1
                go_wp2_with fail
                go_roundw
                case rel => exact ⟨k + 1, cN + 1, ct1, sy, m5, c5, a5, v8, Y, dn1, by omega, by omega, by omega, by omega, rfl, rfl, rfl, rfl, rfl, by go_num, HLT1.out, HL9.out⟩
                case measure => simp [intOf]; omega
              · obtain rfl : en = 0 := hen
                clear hct1 hdn1
                have HA := hide (jput_any HL1.out.jn (HZC.out wc HL1.out.jn.nw.kp) HCB.out (by have := HCl.out; omega) (by omega) true HE.out 0 rfl ct1 HCT1.out)
                go_wp2_with (first
                  | (go_at_call 14; refine HA.out.mono ?_; rintro ee w8 ⟨rfl, v8, J8, T8⟩; have HL8 := hide (HL1.out.disk J8 T8); clear HA J8 T8))
                obtain ⟨T, hT⟩ : ∃ T, T = strOfNums Y := ⟨_, rfl⟩
                have HT := hide hT
                have HZ : Hid (∀ w', Kp [] w8.drew w' → Sl w' (.slice a5 m5 c5) Y) := fun w' k' => HL8.out.row.sl.kept ((kp_drew w8).trans k') (by simp)
                have HD := hide (fun w' (k' : Kp [] w8.drew w') => HL8.out.jn.nw.dk.keptN ((kp_drew w8).trans k'))
                have HJn := hide (fun w' (k' : Kp [] w8.drew w') => HL8.out.jn.on ((kp_drew w8).trans k'))
                have HSY : Hid (((sy : Nat) : Int) = (sy : Int)) := rfl
                have HCT : Hid (((ct1 : Nat) : Int) = (ct1 : Int)) := rfl
                clear hT
                refine region_grow Try.mixed [Is (.int .i64 0), Is (.int .i64 0), Is (.bool false), Is (.bool false), Is (.pointer (some ⟨p, 0, none⟩)), SlT (Y), Is (.string T), Is (.slice a5 m5 c5), Is (.string T), Is (.bool false), Is (.bool false), Is (.bool false), Is (.pointer (some ⟨p, 0, none⟩)), Is (.int .i64 sy), Is (.int .i64 sy), Is (.bool false), Is (.bool false), Is (.bool false), Is (.pointer (some ⟨j, 0, none⟩)), Is (.int .i64 ct1), Is (.int .i64 ct1), Is (.bool false), Is (.bool false)] [[(24, none)], [(20, none)], [(189, some 0), (190, some 1)], [(191, some 2)], [(8, none), (192, some 3)], [(193, some 4), (192, some 3)], [(194, some 5), (192, some 3)], [(17, none), (192, some 3)], [(196, some 7), (192, some 3)], [(195, some 6), (197, some 8), (192, some 3)], [(192, some 3), (198, some 9)], [(199, some 10)], [(8, none), (200, some 11)], [(201, some 12), (200, some 11)], [(15, none), (200, some 11)], [(202, some 13), (203, some 14), (200, some 11)], [(200, some 11), (204, some 15)], [(205, some 16)], [(10, none), (206, some 17)], [(207, some 18), (206, some 17)], [(14, none), (206, some 17)], [(208, some 19), (209, some 20), (206, some 17)], [(206, some 17), (210, some 21)]] (by kernel_rfl) ?_ ?_ ?_
                · simp only [List.mem_cons, List.not_mem_nil, or_false]
                  intro R hR
                  rcases hR with rfl | rfl | rfl | rfl | rfl | rfl | rfl | rfl | rfl | rfl | rfl | rfl | rfl | rfl | rfl | rfl | rfl | rfl | rfl | rfl | rfl | rfl | rfl <;> first | exact stable_is _ | exact stable_sl _
                · refine steps_cons (fun a w hk hn => ?_) ?_
                  · have h24 : a.eval (.tmp 24) = .int .i64 0 := hn.1
                    clear hn
                    refine wants_plain rfl ?_
                    exact grown_move (.tmp 24) rfl h24
                  refine steps_cons (fun a w hk hn => ?_) ?_
                  · have h20 : a.eval (.tmp 20) = .int .i64 0 := hn.1
                    clear hn
                    refine wants_plain rfl ?_
                    exact grown_move (.tmp 20) rfl h20
                  refine steps_cons (fun a w hk hn => ?_) ?_
                  · have h189 : a.eval (.tmp 189) = .int .i64 0 := hn.1
                    have h190 : a.eval (.tmp 190) = .int .i64 0 := hn.2.1
                    clear hn
                    refine wants_plain rfl ?_
                    refine grown_run (v := .bool false) ?_ (Kp.refl _ _) rfl
                    obtain ⟨ρ, hρ, hc, hf, hg⟩ := eval_is a
                    rw [hρ] at h189 h190 ⊢
                    simp [go_sem, h189, h190]
                  refine steps_cons (fun a w hk hn => ?_) ?_
                  · have h191 : a.eval (.tmp 191) = .bool false := hn.1
                    clear hn
                    refine wants_plain rfl ?_
                    exact grown_move (.tmp 191) rfl h191
                  refine steps_cons (fun a w hk hn => ?_) ?_
                  · have h8 : a.eval (.tmp 8) = .pointer (some ⟨p, 0, none⟩) := hn.1
                    have h192 : a.eval (.tmp 192) = .bool false := hn.2.1
                    clear hn
                    refine wants_guard (d := 192) rfl rfl h192 ?_
                    exact grown_move (.tmp 8) rfl h8
                  refine steps_cons (fun a w hk hn => ?_) ?_
                  · have h193 : a.eval (.tmp 193) = .pointer (some ⟨p, 0, none⟩) := hn.1
                    have h192 : a.eval (.tmp 192) = .bool false := hn.2.1
                    clear hn
                    refine wants_guard (d := 192) rfl rfl h192 ?_
                    refine grown_call (f := 25) rfl Try.func25 (by kernel_rfl) (by kernel_rfl) ?_
                    simp only [List.map_toArray, List.map_cons, List.map_nil, h193]
                    refine (dbytes_any p v8 _ _ w (unhide HD w hk)).mono ?_
                    rintro e w' ⟨ao, m, c, rfl, R, K⟩
                    exact ⟨_, rfl, K, R.sl⟩
                  refine steps_cons (fun a w hk hn => ?_) ?_
                  · have h194 : Sl w (a.eval (.tmp 194)) (Y) := hn.1
                    have h192 : a.eval (.tmp 192) = .bool false := hn.2.1
                    clear hn
                    refine wants_guard (d := 192) rfl rfl h192 ?_
                    exact grown_conv (.tmp 194) _ _ 5 _ rfl h194 Try.underlying22 Try.underlying5 Try.underlying9 (congrArg Value.string (unhide HT).symm)
                  refine steps_cons (fun a w hk hn => ?_) ?_
                  · have h17 : a.eval (.tmp 17) = .slice a5 m5 c5 := hn.1
                    have h192 : a.eval (.tmp 192) = .bool false := hn.2.1
                    clear hn
                    refine wants_guard (d := 192) rfl rfl h192 ?_
                    exact grown_move (.tmp 17) rfl h17
                  refine steps_cons (fun a w hk hn => ?_) ?_
                  · have h196 : a.eval (.tmp 196) = .slice a5 m5 c5 := hn.1
                    have h192 : a.eval (.tmp 192) = .bool false := hn.2.1
                    clear hn
                    refine wants_guard (d := 192) rfl rfl h192 ?_
                    exact grown_conv (.tmp 196) _ _ 5 (Y) rfl (by rw [h196]; exact unhide HZ w hk) Try.underlying22 Try.underlying5 Try.underlying9 (congrArg Value.string (unhide HT).symm)
                  refine steps_cons (fun a w hk hn => ?_) ?_
                  · have h195 : a.eval (.tmp 195) = .string T := hn.1
                    have h197 : a.eval (.tmp 197) = .string T := hn.2.1
                    have h192 : a.eval (.tmp 192) = .bool false := hn.2.2.1
                    clear hn
                    refine wants_guard (d := 192) rfl rfl h192 ?_
                    refine grown_run (v := .bool false) ?_ (Kp.refl _ _) rfl
                    obtain ⟨ρ, hρ, hc, hf, hg⟩ := eval_is a
                    rw [hρ] at h195 h197 ⊢
                    simp [go_sem, h195, h197]
                  refine steps_cons (fun a w hk hn => ?_) ?_
                  · have h192 : a.eval (.tmp 192) = .bool false := hn.1
                    have h198 : a.eval (.tmp 198) = .bool false := hn.2.1
                    clear hn
                    refine wants_plain rfl ?_
                    exact grown_pick _ _ _ false rfl h192 h198
                  refine steps_cons (fun a w hk hn => ?_) ?_
                  · have h199 : a.eval (.tmp 199) = .bool false := hn.1
                    clear hn
                    refine wants_plain rfl ?_
                    exact grown_move (.tmp 199) rfl h199
                  refine steps_cons (fun a w hk hn => ?_) ?_
                  · have h8 : a.eval (.tmp 8) = .pointer (some ⟨p, 0, none⟩) := hn.1
                    have h200 : a.eval (.tmp 200) = .bool false := hn.2.1
                    clear hn
                    refine wants_guard (d := 200) rfl rfl h200 ?_
                    exact grown_move (.tmp 8) rfl h8
                  refine steps_cons (fun a w hk hn => ?_) ?_
                  · have h201 : a.eval (.tmp 201) = .pointer (some ⟨p, 0, none⟩) := hn.1
                    have h200 : a.eval (.tmp 200) = .bool false := hn.2.1
                    clear hn
                    refine wants_guard (d := 200) rfl rfl h200 ?_
                    refine grown_call (f := 26) rfl Try.func26 (by kernel_rfl) (by kernel_rfl) ?_
                    simp only [List.map_toArray, List.map_cons, List.map_nil, h201]
                    refine (syncedz_any (unhide HD w hk) (unhide HSY)).mono ?_
                    rintro e w' ⟨rfl, rfl⟩
                    exact ⟨_, rfl, Kp.refl _ _, rfl⟩
                  refine steps_cons (fun a w hk hn => ?_) ?_
                  · have h15 : a.eval (.tmp 15) = .int .i64 sy := hn.1
                    have h200 : a.eval (.tmp 200) = .bool false := hn.2.1
                    clear hn
                    refine wants_guard (d := 200) rfl rfl h200 ?_
                    exact grown_move (.tmp 15) rfl h15
                  refine steps_cons (fun a w hk hn => ?_) ?_
                  · have h202 : a.eval (.tmp 202) = .int .i64 sy := hn.1
                    have h203 : a.eval (.tmp 203) = .int .i64 sy := hn.2.1
                    have h200 : a.eval (.tmp 200) = .bool false := hn.2.2.1
                    clear hn
                    refine wants_guard (d := 200) rfl rfl h200 ?_
                    refine grown_run (v := .bool false) ?_ (Kp.refl _ _) rfl
                    obtain ⟨ρ, hρ, hc, hf, hg⟩ := eval_is a
                    rw [hρ] at h202 h203 ⊢
                    simp [go_sem, h202, h203]
                  refine steps_cons (fun a w hk hn => ?_) ?_
                  · have h200 : a.eval (.tmp 200) = .bool false := hn.1
                    have h204 : a.eval (.tmp 204) = .bool false := hn.2.1
                    clear hn
                    refine wants_plain rfl ?_
                    exact grown_pick _ _ _ false rfl h200 h204
                  refine steps_cons (fun a w hk hn => ?_) ?_
                  · have h205 : a.eval (.tmp 205) = .bool false := hn.1
                    clear hn
                    refine wants_plain rfl ?_
                    exact grown_move (.tmp 205) rfl h205
                  refine steps_cons (fun a w hk hn => ?_) ?_
                  · have h10 : a.eval (.tmp 10) = .pointer (some ⟨j, 0, none⟩) := hn.1
                    have h206 : a.eval (.tmp 206) = .bool false := hn.2.1
                    clear hn
                    refine wants_guard (d := 206) rfl rfl h206 ?_
                    exact grown_move (.tmp 10) rfl h10
                  refine steps_cons (fun a w hk hn => ?_) ?_
                  · have h207 : a.eval (.tmp 207) = .pointer (some ⟨j, 0, none⟩) := hn.1
                    have h206 : a.eval (.tmp 206) = .bool false := hn.2.1
                    clear hn
                    refine wants_guard (d := 206) rfl rfl h206 ?_
                    refine grown_call (f := 16) rfl Try.func16 (by kernel_rfl) (by kernel_rfl) ?_
                    simp only [List.map_toArray, List.map_cons, List.map_nil, h207]
                    refine (jcountz_any (unhide HJn w hk) (unhide HCT)).mono ?_
                    rintro e w' ⟨rfl, rfl⟩
                    exact ⟨_, rfl, Kp.refl _ _, rfl⟩
                  refine steps_cons (fun a w hk hn => ?_) ?_
                  · have h14 : a.eval (.tmp 14) = .int .i64 ct1 := hn.1
                    have h206 : a.eval (.tmp 206) = .bool false := hn.2.1
                    clear hn
                    refine wants_guard (d := 206) rfl rfl h206 ?_
                    exact grown_move (.tmp 14) rfl h14
                  refine steps_cons (fun a w hk hn => ?_) ?_
                  · have h208 : a.eval (.tmp 208) = .int .i64 ct1 := hn.1
                    have h209 : a.eval (.tmp 209) = .int .i64 ct1 := hn.2.1
                    have h206 : a.eval (.tmp 206) = .bool false := hn.2.2.1
                    clear hn
                    refine wants_guard (d := 206) rfl rfl h206 ?_
                    refine grown_run (v := .bool false) ?_ (Kp.refl _ _) rfl
                    obtain ⟨ρ, hρ, hc, hf, hg⟩ := eval_is a
                    rw [hρ] at h208 h209 ⊢
                    simp [go_sem, h208, h209]
                  refine steps_cons (fun a w hk hn => ?_) ?_
                  · have h206 : a.eval (.tmp 206) = .bool false := hn.1
                    have h210 : a.eval (.tmp 210) = .bool false := hn.2.1
                    clear hn
                    refine wants_plain rfl ?_
                    exact grown_pick _ _ _ false rfl h206 h210
                  exact trivial
                intro W1 hkW1
                rintro _ rfl
                rintro _ rfl
                rintro _ rfl
                rintro _ rfl
                rintro _ rfl
                intro v194 h194
                rintro _ rfl
                rintro _ rfl
                rintro _ rfl
                rintro _ rfl
                rintro _ rfl
                rintro _ rfl
                rintro _ rfl
                rintro _ rfl
                rintro _ rfl
                rintro _ rfl
                rintro _ rfl
                rintro _ rfl
                rintro _ rfl
                rintro _ rfl
                rintro _ rfl
                rintro _ rfl
                rintro _ rfl
                refine fin_nil ?_
                simp only [Act.put, List.set_cons_zero, List.set_cons_succ, List.setIfInBounds_toArray]
                have HL9 := hide (HL8.out.on ((kp_drew w8).trans hkW1))
                clear hkW1
                go_wp2_with fail
                go_roundw
                case rel => exact ⟨k + 1, cN + 1, ct1, sy, m5, c5, a5, v8, Y, dn1, by omega, by omega, by omega, by omega, rfl, rfl, rfl, rfl, rfl, by go_num, HLT1.out, HL9.out⟩
                case measure => simp [intOf]; omega
        · by_cases h3 : kd = 3
          · subst h3
            as_aux_lemma =>
              go_upto_if 82 with (first | (go_at_call 20; refine HCt.out.mono ?_; rintro ee w4 ⟨rfl, hw4⟩; subst w4; clear HCt) | fail)
              go_upto_if 146 with fail
              go_cut [13, 15, 16, 20] from 53 to 211 (fun c syv dnv want wx => ∃ (c2 sy2 : Nat) (er2 dn2 : Bool) (en2 : Int), c = .int .i64 c2 ∧ syv = .int .i64 sy2 ∧ dnv = .bool dn2 ∧ want = .int .i64 en2 ∧ en2 = (if er2 then 0 else 13) ∧ wx = wr ∧ c2 ≤ 2 * (k + 1) ∧ Hid (dn2 = false → 0 < arm → (c2 : Int) < arm) ∧ Hid ((⟨X, sy, q, rr arm cN dn, dn⟩ : Dk).sync = (er2, ⟨X, sy2, q, rr arm c2 dn2, dn2⟩)))
              case first =>
                have HLEN : Hid (m = X.length) := HM
                cases dn
                · have HLTS : Hid (0 < arm → (cN : Int) < arm) := HLT0.out rfl
                  by_cases hg : 0 < arm ∧ ((cN : Nat) : Int) + 1 = arm
                  · have harm0 : 0 < arm := hg.1
                    have hgd : ((cN : Int) + 1 == arm) = true := by simp; omega
                    have HG := hide hg.2
                    clear hg
                    have hs : (⟨X, sy, q, rr arm ((cN : Nat) : Int) false, false⟩ : Dk).sync = (false, ⟨X, sy, q, rr arm (((cN) + 1 : Nat) : Int) true, true⟩) := by rw [show (((cN) + 1 : Nat) : Int) = ((cN : Nat) : Int) + 1 from by omega]; exact Dk.jsync_gone harm0 HG.out
                    have HS := hide (hs)
                    clear hs
                    go_wp2_with fail
                    go_meet
                    case rel => exact ⟨cN + 1, sy, false, true, 13, by go_num, rfl, rfl, rfl, rfl, rfl, by omega, (fun h => by cases h), HS⟩
                  · have HNG := hide hg
                    have HUP : Hid (0 < arm → (((cN) + 1 : Nat) : Int) < arm) := (fun h => by have := HLTS.out h; omega)
                    rcases (by omega : ¬ 0 < arm ∨ (0 < arm ∧ ¬ ((cN : Nat) : Int) + 1 = arm)) with h0 | ⟨h0, h1⟩
                    · have harm : decide (0 < arm) = false := decide_eq_false h0
                      clear hg
                      have hs : (⟨X, sy, q, rr arm ((cN : Nat) : Int) false, false⟩ : Dk).sync = (true, ⟨X, (X).length, q, rr arm (((cN) + 1 : Nat) : Int) false, false⟩) := by rw [show (((cN) + 1 : Nat) : Int) = ((cN : Nat) : Int) + 1 from by omega]; exact Dk.jsync_ok HLTS.out HNG.out
                      have HS := hide (hs)
                      clear hs
                      go_wp2_with fail
                      go_meet
                      case rel => exact ⟨cN + 1, (X).length, true, false, 0, by go_num, congrArg (Value.int .i64) (by have := HLEN.out; omega), rfl, rfl, rfl, rfl, by omega, (fun _ => HUP.out), HS⟩
                    · have hne : ((cN : Int) + 1 == arm) = false := beq_eq_false_iff_ne.2 (by omega)
                      clear hg h1
                      have hs : (⟨X, sy, q, rr arm ((cN : Nat) : Int) false, false⟩ : Dk).sync = (true, ⟨X, (X).length, q, rr arm (((cN) + 1 : Nat) : Int) false, false⟩) := by rw [show (((cN) + 1 : Nat) : Int) = ((cN : Nat) : Int) + 1 from by omega]; exact Dk.jsync_ok HLTS.out HNG.out
                      have HS := hide (hs)
                      clear hs
                      go_wp2_with fail
                      go_meet
                      case rel => exact ⟨cN + 1, (X).length, true, false, 0, by go_num, congrArg (Value.int .i64) (by have := HLEN.out; omega), rfl, rfl, rfl, rfl, by omega, (fun _ => HUP.out), HS⟩
                · have hs : (⟨X, sy, q, rr arm cN true, true⟩ : Dk).sync = (false, (⟨X, sy, q, rr arm ((cN + 1 : Nat) : Int) true, true⟩ : Dk)) := by rw [show (((cN + 1 : Nat)) : Int) = (cN : Int) + 1 from by omega]; exact Dk.jsync_down
                  have HS := hide hs
                  clear hs
                  go_wp2_with fail
                  go_meet
                  case rel => exact ⟨cN + 1, sy, false, true, 13, by go_num, rfl, rfl, rfl, rfl, rfl, by omega, (fun h => by cases h), HS⟩
              case rest =>
                obtain ⟨c2, sy2, er2, dn2, en2, rfl, rfl, rfl, rfl, hen2, rfl, hc2, HLT2, HEQ⟩ := hcut
                obtain ⟨Y, hY⟩ : ∃ Y, Y = X := ⟨_, rfl⟩
                have HA := hide (jsync_any HLJ.out.jn er2 HEQ.out en2 hen2)
                have HEN := hide hen2
                clear hen2
                go_wp2_with (first
                  | (go_at_call 24; refine HA.out.mono ?_; rintro ee w8 ⟨rfl, J8, T8⟩; have HL8 := hide (HLJ.out.disk J8 T8); rw [← hY] at HL8; clear HA J8 T8))
                obtain ⟨T, hT⟩ : ∃ T, T = strOfNums Y := ⟨_, rfl⟩
                have HT := hide hT
                have HZ : Hid (∀ w', Kp [] w8.drew w' → Sl w' (.slice ax m cx) Y) := fun w' k' => HL8.out.row.sl.kept ((kp_drew w8).trans k') (by simp)
                have HD := hide (fun w' (k' : Kp [] w8.drew w') => HL8.out.jn.nw.dk.keptN ((kp_drew w8).trans k'))
                have HJn := hide (fun w' (k' : Kp [] w8.drew w') => HL8.out.jn.on ((kp_drew w8).trans k'))
                have HSY : Hid (((sy2 : Nat) : Int) = (sy2 : Int)) := rfl
                have HCT : Hid (((ct : Nat) : Int) = (ct : Int)) := rfl
                clear hT
                refine region_grow Try.mixed [Is (.int .i64 en2), Is (.int .i64 en2), Is (.bool false), Is (.bool false), Is (.pointer (some ⟨p, 0, none⟩)), SlT (Y), Is (.string T), Is (.slice ax m cx), Is (.string T), Is (.bool false), Is (.bool false), Is (.bool false), Is (.pointer (some ⟨p, 0, none⟩)), Is (.int .i64 sy2), Is (.int .i64 sy2), Is (.bool false), Is (.bool false), Is (.bool false), Is (.pointer (some ⟨j, 0, none⟩)), Is (.int .i64 ct), Is (.int .i64 ct), Is (.bool false), Is (.bool false)] [[(24, none)], [(20, none)], [(189, some 0), (190, some 1)], [(191, some 2)], [(8, none), (192, some 3)], [(193, some 4), (192, some 3)], [(194, some 5), (192, some 3)], [(17, none), (192, some 3)], [(196, some 7), (192, some 3)], [(195, some 6), (197, some 8), (192, some 3)], [(192, some 3), (198, some 9)], [(199, some 10)], [(8, none), (200, some 11)], [(201, some 12), (200, some 11)], [(15, none), (200, some 11)], [(202, some 13), (203, some 14), (200, some 11)], [(200, some 11), (204, some 15)], [(205, some 16)], [(10, none), (206, some 17)], [(207, some 18), (206, some 17)], [(14, none), (206, some 17)], [(208, some 19), (209, some 20), (206, some 17)], [(206, some 17), (210, some 21)]] (by kernel_rfl) ?_ ?_ ?_
                · simp only [List.mem_cons, List.not_mem_nil, or_false]
                  intro R hR
                  rcases hR with rfl | rfl | rfl | rfl | rfl | rfl | rfl | rfl | rfl | rfl | rfl | rfl | rfl | rfl | rfl | rfl | rfl | rfl | rfl | rfl | rfl | rfl | rfl <;> first | exact stable_is _ | exact stable_sl _
                · refine steps_cons (fun a w hk hn => ?_) ?_
                  · have h24 : a.eval (.tmp 24) = .int .i64 en2 := hn.1
                    clear hn
                    refine wants_plain rfl ?_
                    exact grown_move (.tmp 24) rfl h24
                  refine steps_cons (fun a w hk hn => ?_) ?_
                  · have h20 : a.eval (.tmp 20) = .int .i64 en2 := hn.1
                    clear hn
                    refine wants_plain rfl ?_
                    exact grown_move (.tmp 20) rfl h20
                  refine steps_cons (fun a w hk hn => ?_) ?_
                  · have h189 : a.eval (.tmp 189) = .int .i64 en2 := hn.1
                    have h190 : a.eval (.tmp 190) = .int .i64 en2 := hn.2.1
                    clear hn
                    refine wants_plain rfl ?_
                    refine grown_run (v := .bool false) ?_ (Kp.refl _ _) rfl
                    obtain ⟨ρ, hρ, hc, hf, hg⟩ := eval_is a
                    rw [hρ] at h189 h190 ⊢
                    simp [go_sem, h189, h190]
                  refine steps_cons (fun a w hk hn => ?_) ?_
                  · have h191 : a.eval (.tmp 191) = .bool false := hn.1
                    clear hn
                    refine wants_plain rfl ?_
                    exact grown_move (.tmp 191) rfl h191
                  refine steps_cons (fun a w hk hn => ?_) ?_
                  · have h8 : a.eval (.tmp 8) = .pointer (some ⟨p, 0, none⟩) := hn.1
                    have h192 : a.eval (.tmp 192) = .bool false := hn.2.1
                    clear hn
                    refine wants_guard (d := 192) rfl rfl h192 ?_
                    exact grown_move (.tmp 8) rfl h8
                  refine steps_cons (fun a w hk hn => ?_) ?_
                  · have h193 : a.eval (.tmp 193) = .pointer (some ⟨p, 0, none⟩) := hn.1
                    have h192 : a.eval (.tmp 192) = .bool false := hn.2.1
                    clear hn
                    refine wants_guard (d := 192) rfl rfl h192 ?_
                    refine grown_call (f := 25) rfl Try.func25 (by kernel_rfl) (by kernel_rfl) ?_
                    simp only [List.map_toArray, List.map_cons, List.map_nil, h193]
                    refine (dbytes_any p v _ _ w (unhide HD w hk)).mono ?_
                    rintro e w' ⟨ao, m, c, rfl, R, K⟩
                    exact ⟨_, rfl, K, R.sl⟩
                  refine steps_cons (fun a w hk hn => ?_) ?_
                  · have h194 : Sl w (a.eval (.tmp 194)) (Y) := hn.1
                    have h192 : a.eval (.tmp 192) = .bool false := hn.2.1
                    clear hn
                    refine wants_guard (d := 192) rfl rfl h192 ?_
                    exact grown_conv (.tmp 194) _ _ 5 _ rfl h194 Try.underlying22 Try.underlying5 Try.underlying9 (congrArg Value.string (unhide HT).symm)
                  refine steps_cons (fun a w hk hn => ?_) ?_
                  · have h17 : a.eval (.tmp 17) = .slice ax m cx := hn.1
                    have h192 : a.eval (.tmp 192) = .bool false := hn.2.1
                    clear hn
                    refine wants_guard (d := 192) rfl rfl h192 ?_
                    exact grown_move (.tmp 17) rfl h17
                  refine steps_cons (fun a w hk hn => ?_) ?_
                  · have h196 : a.eval (.tmp 196) = .slice ax m cx := hn.1
                    have h192 : a.eval (.tmp 192) = .bool false := hn.2.1
                    clear hn
                    refine wants_guard (d := 192) rfl rfl h192 ?_
                    exact grown_conv (.tmp 196) _ _ 5 (Y) rfl (by rw [h196]; exact unhide HZ w hk) Try.underlying22 Try.underlying5 Try.underlying9 (congrArg Value.string (unhide HT).symm)
                  refine steps_cons (fun a w hk hn => ?_) ?_
                  · have h195 : a.eval (.tmp 195) = .string T := hn.1
                    have h197 : a.eval (.tmp 197) = .string T := hn.2.1
                    have h192 : a.eval (.tmp 192) = .bool false := hn.2.2.1
                    clear hn
                    refine wants_guard (d := 192) rfl rfl h192 ?_
                    refine grown_run (v := .bool false) ?_ (Kp.refl _ _) rfl
                    obtain ⟨ρ, hρ, hc, hf, hg⟩ := eval_is a
                    rw [hρ] at h195 h197 ⊢
                    simp [go_sem, h195, h197]
                  refine steps_cons (fun a w hk hn => ?_) ?_
                  · have h192 : a.eval (.tmp 192) = .bool false := hn.1
                    have h198 : a.eval (.tmp 198) = .bool false := hn.2.1
                    clear hn
                    refine wants_plain rfl ?_
                    exact grown_pick _ _ _ false rfl h192 h198
                  refine steps_cons (fun a w hk hn => ?_) ?_
                  · have h199 : a.eval (.tmp 199) = .bool false := hn.1
                    clear hn
                    refine wants_plain rfl ?_
                    exact grown_move (.tmp 199) rfl h199
                  refine steps_cons (fun a w hk hn => ?_) ?_
                  · have h8 : a.eval (.tmp 8) = .pointer (some ⟨p, 0, none⟩) := hn.1
                    have h200 : a.eval (.tmp 200) = .bool false := hn.2.1
                    clear hn
                    refine wants_guard (d := 200) rfl rfl h200 ?_
                    exact grown_move (.tmp 8) rfl h8
                  refine steps_cons (fun a w hk hn => ?_) ?_
                  · have h201 : a.eval (.tmp 201) = .pointer (some ⟨p, 0, none⟩) := hn.1
                    have h200 : a.eval (.tmp 200) = .bool false := hn.2.1
                    clear hn
                    refine wants_guard (d := 200) rfl rfl h200 ?_
                    refine grown_call (f := 26) rfl Try.func26 (by kernel_rfl) (by kernel_rfl) ?_
                    simp only [List.map_toArray, List.map_cons, List.map_nil, h201]
                    refine (syncedz_any (unhide HD w hk) (unhide HSY)).mono ?_
                    rintro e w' ⟨rfl, rfl⟩
                    exact ⟨_, rfl, Kp.refl _ _, rfl⟩
                  refine steps_cons (fun a w hk hn => ?_) ?_
                  · have h15 : a.eval (.tmp 15) = .int .i64 sy2 := hn.1
                    have h200 : a.eval (.tmp 200) = .bool false := hn.2.1
                    clear hn
                    refine wants_guard (d := 200) rfl rfl h200 ?_
                    exact grown_move (.tmp 15) rfl h15
                  refine steps_cons (fun a w hk hn => ?_) ?_
                  · have h202 : a.eval (.tmp 202) = .int .i64 sy2 := hn.1
                    have h203 : a.eval (.tmp 203) = .int .i64 sy2 := hn.2.1
                    have h200 : a.eval (.tmp 200) = .bool false := hn.2.2.1
                    clear hn
                    refine wants_guard (d := 200) rfl rfl h200 ?_
                    refine grown_run (v := .bool false) ?_ (Kp.refl _ _) rfl
                    obtain ⟨ρ, hρ, hc, hf, hg⟩ := eval_is a
                    rw [hρ] at h202 h203 ⊢
                    simp [go_sem, h202, h203]
                  refine steps_cons (fun a w hk hn => ?_) ?_
                  · have h200 : a.eval (.tmp 200) = .bool false := hn.1
                    have h204 : a.eval (.tmp 204) = .bool false := hn.2.1
                    clear hn
                    refine wants_plain rfl ?_
                    exact grown_pick _ _ _ false rfl h200 h204
                  refine steps_cons (fun a w hk hn => ?_) ?_
                  · have h205 : a.eval (.tmp 205) = .bool false := hn.1
                    clear hn
                    refine wants_plain rfl ?_
                    exact grown_move (.tmp 205) rfl h205
                  refine steps_cons (fun a w hk hn => ?_) ?_
                  · have h10 : a.eval (.tmp 10) = .pointer (some ⟨j, 0, none⟩) := hn.1
                    have h206 : a.eval (.tmp 206) = .bool false := hn.2.1
                    clear hn
                    refine wants_guard (d := 206) rfl rfl h206 ?_
                    exact grown_move (.tmp 10) rfl h10
                  refine steps_cons (fun a w hk hn => ?_) ?_
                  · have h207 : a.eval (.tmp 207) = .pointer (some ⟨j, 0, none⟩) := hn.1
                    have h206 : a.eval (.tmp 206) = .bool false := hn.2.1
                    clear hn
                    refine wants_guard (d := 206) rfl rfl h206 ?_
                    refine grown_call (f := 16) rfl Try.func16 (by kernel_rfl) (by kernel_rfl) ?_
                    simp only [List.map_toArray, List.map_cons, List.map_nil, h207]
                    refine (jcountz_any (unhide HJn w hk) (unhide HCT)).mono ?_
                    rintro e w' ⟨rfl, rfl⟩
                    exact ⟨_, rfl, Kp.refl _ _, rfl⟩
                  refine steps_cons (fun a w hk hn => ?_) ?_
                  · have h14 : a.eval (.tmp 14) = .int .i64 ct := hn.1
                    have h206 : a.eval (.tmp 206) = .bool false := hn.2.1
                    clear hn
                    refine wants_guard (d := 206) rfl rfl h206 ?_
                    exact grown_move (.tmp 14) rfl h14
                  refine steps_cons (fun a w hk hn => ?_) ?_
                  · have h208 : a.eval (.tmp 208) = .int .i64 ct := hn.1
                    have h209 : a.eval (.tmp 209) = .int .i64 ct := hn.2.1
                    have h206 : a.eval (.tmp 206) = .bool false := hn.2.2.1
                    clear hn
                    refine wants_guard (d := 206) rfl rfl h206 ?_
                    refine grown_run (v := .bool false) ?_ (Kp.refl _ _) rfl
                    obtain ⟨ρ, hρ, hc, hf, hg⟩ := eval_is a
                    rw [hρ] at h208 h209 ⊢
                    simp [go_sem, h208, h209]
                  refine steps_cons (fun a w hk hn => ?_) ?_
                  · have h206 : a.eval (.tmp 206) = .bool false := hn.1
                    have h210 : a.eval (.tmp 210) = .bool false := hn.2.1
                    clear hn
                    refine wants_plain rfl ?_
                    exact grown_pick _ _ _ false rfl h206 h210
                  exact trivial
                intro W1 hkW1
                rintro _ rfl
                rintro _ rfl
                rintro _ rfl
                rintro _ rfl
                rintro _ rfl
                intro v194 h194
                rintro _ rfl
                rintro _ rfl
                rintro _ rfl
                rintro _ rfl
                rintro _ rfl
                rintro _ rfl
                rintro _ rfl
                rintro _ rfl
                rintro _ rfl
                rintro _ rfl
                rintro _ rfl
                rintro _ rfl
                rintro _ rfl
                rintro _ rfl
                rintro _ rfl
                rintro _ rfl
                rintro _ rfl
                refine fin_nil ?_
                simp only [Act.put, List.set_cons_zero, List.set_cons_succ, List.setIfInBounds_toArray]
                have HL9 := hide (HL8.out.on ((kp_drew w8).trans hkW1))
                clear hkW1
                go_wp2_with fail
                go_roundw
                case rel => exact ⟨k + 1, c2, ct, sy2, m, cx, ax, v, Y, dn2, by omega, by omega, by omega, by omega, rfl, rfl, rfl, rfl, rfl, by go_num, HLT2.out, HL9.out⟩
                case measure => simp [intOf]; omega
          · as_aux_lemma =>
              have hk1 : (kd == 1) = false := by simp [h1]
              have hk2 : (kd == 2) = false := by simp [h2]
              have hk3 : (kd == 3) = false := by simp [h3]
              go_wp2_with (first
                | (go_at_call 20; refine HCt.out.mono ?_; rintro ee w4 ⟨rfl, hw4⟩; subst w4; clear HCt))
              obtain ⟨Y, hY⟩ : ∃ Y, Y = X := ⟨_, rfl⟩
              rw [← hY] at HLJ
              obtain ⟨T, hT⟩ : ∃ T, T = strOfNums Y := ⟨_, rfl⟩
              have HT := hide hT
              have HZ : Hid (∀ w', Kp [] wr.drew w' → Sl w' (.slice ax m cx) Y) := fun w' k' => HLJ.out.row.sl.kept ((kp_drew wr).trans k') (by simp)
              have HD := hide (fun w' (k' : Kp [] wr.drew w') => HLJ.out.jn.nw.dk.keptN ((kp_drew wr).trans k'))
              have HJn := hide (fun w' (k' : Kp [] wr.drew w') => HLJ.out.jn.on ((kp_drew wr).trans k'))
              have HSY : Hid (((sy : Nat) : Int) = (sy : Int)) := rfl
              have HCT : Hid (((ct : Nat) : Int) = (ct : Int)) := rfl
              clear hY hT
              refine region_grow Try.mixed [Is (.int .i64 0), Is (.int .i64 0), Is (.bool false), Is (.bool false), Is (.pointer (some ⟨p, 0, none⟩)), SlT (Y), Is (.string T), Is (.slice ax m cx), Is (.string T), Is (.bool false), Is (.bool false), Is (.bool false), Is (.pointer (some ⟨p, 0, none⟩)), Is (.int .i64 sy), Is (.int .i64 sy), Is (.bool false), Is (.bool false), Is (.bool false), Is (.pointer (some ⟨j, 0, none⟩)), Is (.int .i64 ct), Is (.int .i64 ct), Is (.bool false), Is (.bool false)] [[(24, none)], [(20, none)], [(189, some 0), (190, some 1)], [(191, some 2)], [(8, none), (192, some 3)], [(193, some 4), (192, some 3)], [(194, some 5), (192, some 3)], [(17, none), (192, some 3)], [(196, some 7), (192, some 3)], [(195, some 6), (197, some 8), (192, some 3)], [(192, some 3), (198, some 9)], [(199, some 10)], [(8, none), (200, some 11)], [(201, some 12), (200, some 11)], [(15, none), (200, some 11)], [(202, some 13), (203, some 14), (200, some 11)], [(200, some 11), (204, some 15)], [(205, some 16)], [(10, none), (206, some 17)], [(207, some 18), (206, some 17)], [(14, none), (206, some 17)], [(208, some 19), (209, some 20), (206, some 17)], [(206, some 17), (210, some 21)]] (by kernel_rfl) ?_ ?_ ?_
              · simp only [List.mem_cons, List.not_mem_nil, or_false]
                intro R hR
                rcases hR with rfl | rfl | rfl | rfl | rfl | rfl | rfl | rfl | rfl | rfl | rfl | rfl | rfl | rfl | rfl | rfl | rfl | rfl | rfl | rfl | rfl | rfl | rfl <;> first | exact stable_is _ | exact stable_sl _
              · refine steps_cons (fun a w hk hn => ?_) ?_
                · have h24 : a.eval (.tmp 24) = .int .i64 0 := hn.1
                  clear hn
                  refine wants_plain rfl ?_
                  exact grown_move (.tmp 24) rfl h24
                refine steps_cons (fun a w hk hn => ?_) ?_
                · have h20 : a.eval (.tmp 20) = .int .i64 0 := hn.1
                  clear hn
                  refine wants_plain rfl ?_
                  exact grown_move (.tmp 20) rfl h20
                refine steps_cons (fun a w hk hn => ?_) ?_
                · have h189 : a.eval (.tmp 189) = .int .i64 0 := hn.1
                  have h190 : a.eval (.tmp 190) = .int .i64 0 := hn.2.1
                  clear hn
                  refine wants_plain rfl ?_
                  refine grown_run (v := .bool false) ?_ (Kp.refl _ _) rfl
                  obtain ⟨ρ, hρ, hc, hf, hg⟩ := eval_is a
                  rw [hρ] at h189 h190 ⊢
                  simp [go_sem, h189, h190]
                refine steps_cons (fun a w hk hn => ?_) ?_
                · have h191 : a.eval (.tmp 191) = .bool false := hn.1
                  clear hn
                  refine wants_plain rfl ?_
                  exact grown_move (.tmp 191) rfl h191
                refine steps_cons (fun a w hk hn => ?_) ?_
                · have h8 : a.eval (.tmp 8) = .pointer (some ⟨p, 0, none⟩) := hn.1
                  have h192 : a.eval (.tmp 192) = .bool false := hn.2.1
                  clear hn
                  refine wants_guard (d := 192) rfl rfl h192 ?_
                  exact grown_move (.tmp 8) rfl h8
                refine steps_cons (fun a w hk hn => ?_) ?_
                · have h193 : a.eval (.tmp 193) = .pointer (some ⟨p, 0, none⟩) := hn.1
                  have h192 : a.eval (.tmp 192) = .bool false := hn.2.1
                  clear hn
                  refine wants_guard (d := 192) rfl rfl h192 ?_
                  refine grown_call (f := 25) rfl Try.func25 (by kernel_rfl) (by kernel_rfl) ?_
                  simp only [List.map_toArray, List.map_cons, List.map_nil, h193]
                  refine (dbytes_any p v _ _ w (unhide HD w hk)).mono ?_
                  rintro e w' ⟨ao, m, c, rfl, R, K⟩
                  exact ⟨_, rfl, K, R.sl⟩
                refine steps_cons (fun a w hk hn => ?_) ?_
                · have h194 : Sl w (a.eval (.tmp 194)) (Y) := hn.1
                  have h192 : a.eval (.tmp 192) = .bool false := hn.2.1
                  clear hn
                  refine wants_guard (d := 192) rfl rfl h192 ?_
                  exact grown_conv (.tmp 194) _ _ 5 _ rfl h194 Try.underlying22 Try.underlying5 Try.underlying9 (congrArg Value.string (unhide HT).symm)
                refine steps_cons (fun a w hk hn => ?_) ?_
                · have h17 : a.eval (.tmp 17) = .slice ax m cx := hn.1
                  have h192 : a.eval (.tmp 192) = .bool false := hn.2.1
                  clear hn
                  refine wants_guard (d := 192) rfl rfl h192 ?_
                  exact grown_move (.tmp 17) rfl h17
                refine steps_cons (fun a w hk hn => ?_) ?_
                · have h196 : a.eval (.tmp 196) = .slice ax m cx := hn.1
                  have h192 : a.eval (.tmp 192) = .bool false := hn.2.1
                  clear hn
                  refine wants_guard (d := 192) rfl rfl h192 ?_
                  exact grown_conv (.tmp 196) _ _ 5 (Y) rfl (by rw [h196]; exact unhide HZ w hk) Try.underlying22 Try.underlying5 Try.underlying9 (congrArg Value.string (unhide HT).symm)
                refine steps_cons (fun a w hk hn => ?_) ?_
                · have h195 : a.eval (.tmp 195) = .string T := hn.1
                  have h197 : a.eval (.tmp 197) = .string T := hn.2.1
                  have h192 : a.eval (.tmp 192) = .bool false := hn.2.2.1
                  clear hn
                  refine wants_guard (d := 192) rfl rfl h192 ?_
                  refine grown_run (v := .bool false) ?_ (Kp.refl _ _) rfl
                  obtain ⟨ρ, hρ, hc, hf, hg⟩ := eval_is a
                  rw [hρ] at h195 h197 ⊢
                  simp [go_sem, h195, h197]
                refine steps_cons (fun a w hk hn => ?_) ?_
                · have h192 : a.eval (.tmp 192) = .bool false := hn.1
                  have h198 : a.eval (.tmp 198) = .bool false := hn.2.1
                  clear hn
                  refine wants_plain rfl ?_
                  exact grown_pick _ _ _ false rfl h192 h198
                refine steps_cons (fun a w hk hn => ?_) ?_
                · have h199 : a.eval (.tmp 199) = .bool false := hn.1
                  clear hn
                  refine wants_plain rfl ?_
                  exact grown_move (.tmp 199) rfl h199
                refine steps_cons (fun a w hk hn => ?_) ?_
                · have h8 : a.eval (.tmp 8) = .pointer (some ⟨p, 0, none⟩) := hn.1
                  have h200 : a.eval (.tmp 200) = .bool false := hn.2.1
                  clear hn
                  refine wants_guard (d := 200) rfl rfl h200 ?_
                  exact grown_move (.tmp 8) rfl h8
                refine steps_cons (fun a w hk hn => ?_) ?_
                · have h201 : a.eval (.tmp 201) = .pointer (some ⟨p, 0, none⟩) := hn.1
                  have h200 : a.eval (.tmp 200) = .bool false := hn.2.1
                  clear hn
                  refine wants_guard (d := 200) rfl rfl h200 ?_
                  refine grown_call (f := 26) rfl Try.func26 (by kernel_rfl) (by kernel_rfl) ?_
                  simp only [List.map_toArray, List.map_cons, List.map_nil, h201]
                  refine (syncedz_any (unhide HD w hk) (unhide HSY)).mono ?_
                  rintro e w' ⟨rfl, rfl⟩
                  exact ⟨_, rfl, Kp.refl _ _, rfl⟩
                refine steps_cons (fun a w hk hn => ?_) ?_
                · have h15 : a.eval (.tmp 15) = .int .i64 sy := hn.1
                  have h200 : a.eval (.tmp 200) = .bool false := hn.2.1
                  clear hn
                  refine wants_guard (d := 200) rfl rfl h200 ?_
                  exact grown_move (.tmp 15) rfl h15
                refine steps_cons (fun a w hk hn => ?_) ?_
                · have h202 : a.eval (.tmp 202) = .int .i64 sy := hn.1
                  have h203 : a.eval (.tmp 203) = .int .i64 sy := hn.2.1
                  have h200 : a.eval (.tmp 200) = .bool false := hn.2.2.1
                  clear hn
                  refine wants_guard (d := 200) rfl rfl h200 ?_
                  refine grown_run (v := .bool false) ?_ (Kp.refl _ _) rfl
                  obtain ⟨ρ, hρ, hc, hf, hg⟩ := eval_is a
                  rw [hρ] at h202 h203 ⊢
                  simp [go_sem, h202, h203]
                refine steps_cons (fun a w hk hn => ?_) ?_
                · have h200 : a.eval (.tmp 200) = .bool false := hn.1
                  have h204 : a.eval (.tmp 204) = .bool false := hn.2.1
                  clear hn
                  refine wants_plain rfl ?_
                  exact grown_pick _ _ _ false rfl h200 h204
                refine steps_cons (fun a w hk hn => ?_) ?_
                · have h205 : a.eval (.tmp 205) = .bool false := hn.1
                  clear hn
                  refine wants_plain rfl ?_
                  exact grown_move (.tmp 205) rfl h205
                refine steps_cons (fun a w hk hn => ?_) ?_
                · have h10 : a.eval (.tmp 10) = .pointer (some ⟨j, 0, none⟩) := hn.1
                  have h206 : a.eval (.tmp 206) = .bool false := hn.2.1
                  clear hn
                  refine wants_guard (d := 206) rfl rfl h206 ?_
                  exact grown_move (.tmp 10) rfl h10
                refine steps_cons (fun a w hk hn => ?_) ?_
                · have h207 : a.eval (.tmp 207) = .pointer (some ⟨j, 0, none⟩) := hn.1
                  have h206 : a.eval (.tmp 206) = .bool false := hn.2.1
                  clear hn
                  refine wants_guard (d := 206) rfl rfl h206 ?_
                  refine grown_call (f := 16) rfl Try.func16 (by kernel_rfl) (by kernel_rfl) ?_
                  simp only [List.map_toArray, List.map_cons, List.map_nil, h207]
                  refine (jcountz_any (unhide HJn w hk) (unhide HCT)).mono ?_
                  rintro e w' ⟨rfl, rfl⟩
                  exact ⟨_, rfl, Kp.refl _ _, rfl⟩
                refine steps_cons (fun a w hk hn => ?_) ?_
                · have h14 : a.eval (.tmp 14) = .int .i64 ct := hn.1
                  have h206 : a.eval (.tmp 206) = .bool false := hn.2.1
                  clear hn
                  refine wants_guard (d := 206) rfl rfl h206 ?_
                  exact grown_move (.tmp 14) rfl h14
                refine steps_cons (fun a w hk hn => ?_) ?_
                · have h208 : a.eval (.tmp 208) = .int .i64 ct := hn.1
                  have h209 : a.eval (.tmp 209) = .int .i64 ct := hn.2.1
                  have h206 : a.eval (.tmp 206) = .bool false := hn.2.2.1
                  clear hn
                  refine wants_guard (d := 206) rfl rfl h206 ?_
                  refine grown_run (v := .bool false) ?_ (Kp.refl _ _) rfl
                  obtain ⟨ρ, hρ, hc, hf, hg⟩ := eval_is a
                  rw [hρ] at h208 h209 ⊢
                  simp [go_sem, h208, h209]
                refine steps_cons (fun a w hk hn => ?_) ?_
                · have h206 : a.eval (.tmp 206) = .bool false := hn.1
                  have h210 : a.eval (.tmp 210) = .bool false := hn.2.1
                  clear hn
                  refine wants_plain rfl ?_
                  exact grown_pick _ _ _ false rfl h206 h210
                exact trivial
              intro W1 hkW1
              rintro _ rfl
              rintro _ rfl
              rintro _ rfl
              rintro _ rfl
              rintro _ rfl
              intro v194 h194
              rintro _ rfl
              rintro _ rfl
              rintro _ rfl
              rintro _ rfl
              rintro _ rfl
              rintro _ rfl
              rintro _ rfl
              rintro _ rfl
              rintro _ rfl
              rintro _ rfl
              rintro _ rfl
              rintro _ rfl
              rintro _ rfl
              rintro _ rfl
              rintro _ rfl
              rintro _ rfl
              rintro _ rfl
              refine fin_nil ?_
              simp only [Act.put, List.set_cons_zero, List.set_cons_succ, List.setIfInBounds_toArray]
              have HL9 := hide (HLJ.out.on ((kp_drew wr).trans hkW1))
              clear hkW1
              go_wp2_with fail
              go_roundw
              case rel => exact ⟨k + 1, cN, ct, sy, m, cx, ax, v, Y, dn, by omega, by omega, by omega, by omega, by go_num, by go_num, rfl, rfl, rfl, by go_num, HLT0.out, HL9.out⟩
              case measure => simp [intOf]; omega
    · have hgo' : (¬ (k : Int) < (L : Int)) ∨ ((k : Int) < (L : Int) ∧ ¬ (k : Int) < 40) := by omega
      clear hgo
      rcases hgo' with hgo | ⟨hgo, hgo2⟩
      all_goals
        go_wp2_with fail
        refine (jknown_any wr).mono ?_
        rintro ee w9 ⟨rfl, K9⟩
        have HK9 := hide (HKr.out.trans K9)
        clear K9
        go_wp2_with fail
        go_ret
        exact ⟨rfl, HK9.out.below (Nat.le_refl _) (by simp)⟩

set_option maxRecDepth 100000 in
theorem lifted (os : Os) (started : os.Started) (H : Type) (enc : TypeId × Value → H) :
    ReturnsInHanded {} Try.checked os 5 .any (Rows.journalPlaysSpec.pre6 enc Try.prog Try.f5 Rows.journalPlaysRow.domain false) (Rows.journalPlaysSpec.post enc Try.prog Try.f5 false true false false) := by
  refine returnsInHanded_of_change (C := Try.checked) own started (by kernel_rfl) Try.func5
    (ChangeSpec.witness6 (enc := enc) (C := Try.checked) false ⟨#[], #[.slice none 0 0, .int .i64 0, .int .i64 0], []⟩ 8 (by kernel_rfl) (by kernel_rfl) (by kernel_rfl) (by kernel_rfl)) ?_
  intro W base args ds gs before hval0 hW hcnd _
  have hval : ∀ (j : Nat) t v, Try.f5.params[j]? = some t → args[j]? = some v → Value.okWide Try.prog W .any base t v := hval0
  have hW' := hW
  obtain ⟨p, q, hA0, hV, rfl, hfz, hnd⟩ := hW
  have hA : DataW.TrodAll enc Try.prog W 0 (fun _ => true) true Try.f5.params.toList args.toList ds p := hA0
  rw [Try.params5] at hA hval
  obtain ⟨v0, vs0, d0, ds0, p0, q0, hargs, rfl, rfl, h0, r0⟩ := trodAll_cons hA
  obtain ⟨v1, vs1, d1, ds1, p1, q1, rfl, rfl, rfl, h1, r1⟩ := trodAll_cons r0
  obtain ⟨v2, vs2, d2, ds2, p2, q2, rfl, rfl, rfl, h2, r2⟩ := trodAll_cons r1
  obtain ⟨rfl, rfl, rfl⟩ := trodAll_nil r2
  obtain rfl : args = #[v0, v1, v2] := by cases args; simp_all
  obtain ⟨rfl, rfl⟩ := trodVars_none hV
  obtain ⟨a0, len0, cap0, rfl⟩ := okWide_slice Try.underlying39 (hval 0 39 v0 rfl rfl)
  have k0 := h0
  have lt0 : ∀ x ∈ p0, x.block < W.heap.size := by obtain ⟨m, hm⟩ := k0; exact DataW.trod_lt m _ _ _ hm
  obtain ⟨l0, s0⟩ : ∃ l, AskJs W (.slice a0 len0 cap0) l := by
    obtain ⟨fuel, hf⟩ := h0
    exact askJ_of_trod (by simpa [Value.cells] using hf)
  obtain ⟨a1, rfl, rfl, rfl, w1⟩ := open_int Try.underlying3 (hval 1 3 v1 rfl rfl) h1
  obtain ⟨a2, rfl, rfl, rfl, w2⟩ := open_int Try.underlying3 (hval 2 3 v2 rfl rfl) h2
  clear hA0 hval0
  refine (walk (.slice a0 len0 cap0) l0 a1 a2 W s0 (bounds_i64 w1) (bounds_i64 w2)).mono fun e W' ⟨he, bel⟩ => ?_
  subst he
  exact ⟨_, rfl, _, _, _, [], _, [], hW', trodAll_mk1 (shut_bool Try.underlying4 _), (trodAll_cons_mk (Below.trod laidOut (by kernel_rfl) (of_decide_eq_true (by kernel_rfl)) k0 bel lt0) (trodAll_cons_mk (shut_int Try.underlying3 w1) (trodAll_cons_mk (shut_int Try.underlying3 w2) trodAll_mk0))), rfl, bel.frame _, fun h => by cases h⟩

theorem over : Rows.journalPlaysRow.holds Try.pinned (OpenSpec.ofChange Rows.journalPlaysSpec) :=
  OpenClaim.holds_of_wide 5 Try.f5 rfl rfl rfl rfl rfl rfl rfl ⟨rfl, rfl, rfl, rfl, rfl⟩ rfl rfl rfl rfl rfl (by kernel_rfl) Try.func5 (by kernel_rfl)
    (of_decide_eq_true (by kernel_rfl)) (by unfold Func.isWrapper; first | (rw [if_pos (by decide +kernel)]; kernel_rfl) | (rw [if_neg (by decide +kernel)]; exact ⟨rfl, rfl⟩))
    (fun os started H enc _ => lifted os started H enc)
end Go.Proofs.Ytmpjgbckehnkjaa.journalPlays

namespace Go.Proofs.Ytmpjgbckehnkjaa
/-- The given statement. -/
theorem JournalPlays_holds : Rows.JournalPlaysSaid := journalPlays.over
#print axioms JournalPlays_holds
end Go.Proofs.Ytmpjgbckehnkjaa
