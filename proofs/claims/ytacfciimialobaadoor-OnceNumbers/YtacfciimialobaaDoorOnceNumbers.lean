/-
  The statement OnceNumbersCardSaid: the law function OnceNumbers returns true; the table hash.roundWords starts as the program's text lays it (tied). No other condition.
-/
import Derived.Test.YtacfciimialobaaDoorOStr
import Derived.Test.YtacfciimialobaaDoorORefPub
import Derived.Test.YtacfciimialobaaDoorORefSign
import Derived.Test.YtacfciimialobaaDoorTie
import Derived.Test.YtacfciimialobaaDoorCards
import Derived.SevenTiedAt
namespace Go.Proofs.YtacfciimialobaaDoor.onceNumbers
open Go.ChangeShapes Go.WideShapes Go.ChangeAt Go.RowKit
open Go.Proofs.YtacfciimialobaaDoor
set_option linter.unusedVariables false

theorem lists_src {w : World} {b0 o0 n cl : Nat} {l : List (Value × List Int)} (h : Lists w (.slice (some ⟨b0, o0, none⟩) n cl) l) : (∀ j u, (l.map (·.1))[j]? = some u → w.cell? ((⟨b0, o0, none⟩ : Addr).add j) = some u) ∧ ∀ u ∈ l.map (·.1), u.oneCell' = true := by
  obtain ⟨ao, c, e, _, h2⟩ := h
  injection e with e1 e2 e3
  refine ⟨fun j u hu => ?_, fun u hu => ?_⟩
  · have hj : j < l.length := by have := (List.getElem?_eq_some_iff.1 hu).1; simpa using this
    obtain ⟨b', o', e4, hc, _⟩ := h2 j hj
    rw [e4] at e1
    injection e1 with e1
    injection e1 with e5 e6
    subst e5
    subst e6
    rw [Addr.add_lit, hc, ← hu]
    simp [List.getElem?_eq_getElem hj]
  · obtain ⟨x, hx, rfl⟩ := List.mem_map.1 hu
    obtain ⟨i, hi, rfl⟩ := List.getElem_of_mem hx
    obtain ⟨_, _, _, _, ⟨_, _, e, _⟩, _⟩ := h2 i hi
    rw [e]; rfl
theorem rowv_empty (w : World) : RowV (w.alloc (.cells #[] 22)) w.heap.size (.slice (some ⟨w.heap.size, 0, none⟩) 0 0) [] :=
  ⟨rfl, .inr ⟨w.heap.size, 0, #[], rfl, Nat.le_refl _, heap_alloc_new w _, Nat.le_refl _, by simp [maxLen], rfl, rfl⟩⟩

set_option maxRecDepth 100000 in
set_option maxHeartbeats 8000000 in
theorem walk (w : World) (hG : Gl w) :
    Calls Tryd.prog 3 #[] w fun e w' => e = .returned (.bool true) ∧ Below w.heap.size w w' := by
  have HG := hide hG
  clear hG
  go_enter Tryd.func3, Tryd.ntmps3
  go_wp2_with fail
  refine (seed_any 0 w (by omega)).mono ?_
  rintro ee w0 ⟨a1, m1, c1, sd, rfl, R1, hsl, hsb, K1⟩
  have HR1 := hide R1.sl
  have HK1 := hide K1
  have HSB := hide hsb
  clear R1 K1 hsb
  go_wp2_with fail
  obtain ⟨ob, hob⟩ : ∃ ob : Obj, ob = .cells #[.string ⟨#[]⟩, .string ⟨#[97]⟩, .string ⟨#[97, 110, 111, 116, 104, 101, 114, 32, 109, 101, 115, 115, 97, 103, 101]⟩] 9 := ⟨_, rfl⟩
  rw [← hob]
  have HCE : Hid (∀ k, k < 3 → ∃ S : ByteArray, S.size ≤ 15 ∧ ∀ w', Kp [] (w0.alloc ob) w' → w'.cell? ⟨w0.heap.size, k, none⟩ = some (.string S)) := by
    intro k hk
    have h0 := heap_alloc_new w0 ob
    rw [hob] at h0
    rw [hob]
    rcases (by omega : k = 0 ∨ k = 1 ∨ k = 2) with rfl | rfl | rfl
    · exact ⟨⟨#[]⟩, by decide, fun w' h => h.cell (by rw [cell_of_row _ _ 0 _ _ _ h0]; rfl) (by simp)⟩
    · exact ⟨⟨#[97]⟩, by decide, fun w' h => h.cell (by rw [cell_of_row _ _ 1 _ _ _ h0]; rfl) (by simp)⟩
    · exact ⟨⟨#[97, 110, 111, 116, 104, 101, 114, 32, 109, 101, 115, 115, 97, 103, 101]⟩, by decide, fun w' h => h.cell (by rw [cell_of_row _ _ 2 _ _ _ h0]; rfl) (by simp)⟩
  obtain ⟨w1, hw1⟩ : ∃ w1, w1 = w0.alloc ob := ⟨_, rfl⟩
  have HSL : Hid (Sl w1 (.slice a1 m1 c1) sd) := by rw [hw1]; exact (unhide HR1).kept ((Kp.refl [] w0).alloc ob) (by simp)
  have HKW : Hid (Kp [] w w1) := by rw [hw1]; exact (unhide HK1).alloc ob
  rw [← hw1] at HCE ⊢
  clear hob hw1 HR1 HK1
  have GLW : Hid (∀ w', Kp [] w1 w' → Gl w') := fun w' h => (unhide HG).kept ((unhide HKW).trans h) (by simp)
  have SLW : Hid (∀ w', Kp [] w1 w' → Sl w' (.slice a1 m1 c1) sd) := fun w' h => (unhide HSL).kept h (by simp)
  go_loopw [15] (fun i wr => ∃ k : Nat, k ≤ 3 ∧ i = .int .i64 k ∧ Kp [] w1 wr) (fun i _ => 3 - (intOf i).toNat)
  case atStart => exact ⟨0, by omega, rfl, Kp.refl _ _⟩
  case round =>
    obtain ⟨k, hk, rfl, Kr⟩ := hrel
    have HKr := hide Kr
    clear Kr
    by_cases hlt : k < 3
    · have hlt2 : (k : Int) < 3 := by omega
      obtain ⟨S, hSz, hSc⟩ := unhide HCE k hlt
      have hc0 := hSc wr (unhide HKr)
      obtain ⟨wA, hwA⟩ : ∃ wA, wA = wr := ⟨_, rfl⟩
      subst hwA
      obtain ⟨ca, wa, ra, sa, ka⟩ := conv_of_string S wA (by omega)
      obtain ⟨ms, hms⟩ : ∃ ms, ms = nums S := ⟨_, rfl⟩
      rw [← hms] at sa
      have hmsl : ms.length ≤ 15 := by rw [hms, nums_len]; exact hSz
      have HMB : Hid (Bs ms) := by rw [hms]; exact nums_bs S
      have HMS := hide hms
      obtain ⟨d, hd⟩ : ∃ d, d = digP ms := ⟨_, rfl⟩
      have HD := hide hd
      have HKa := hide ((unhide HKr).trans ka)
      have HSa := hide sa
      clear hms hd ka sa hSc
      go_wp2_with fail
      refine (sign_any _ sd 2 _ ms d (unhide HD) wa (unhide SLW wa (unhide HKa)) (unhide HSB) (by omega) (unhide HSa) (unhide HMB) (by omega) (unhide GLW wa (unhide HKa))).mono ?_
      rintro ee wb ⟨a3, m3, c3, rfl, A3⟩
      obtain rfl : m3 = 64 := by rw [A3.cap, sgnP, ptsP_len]
      obtain ⟨l, hL, hl2⟩ := A3.lists (by rw [sgnP, ptsP_len]; omega)
      have hl64 : l.length = 64 := by rw [← List.length_map (f := (·.2)), hl2, sgnP, ptsP_len]
      have HKb := hide ((unhide HKa).trans A3.kp)
      have HL := hide hL
      have HL2 := hide hl2
      have HL64 := hide hl64
      obtain ⟨cb, wc, rb, sb, kb⟩ := conv_of_string S wb (by omega)
      rw [← unhide HMS] at sb
      have HKc := hide ((unhide HKb).trans kb)
      have HLc := hide ((unhide HL).kept kb)
      have HSb := hide sb
      clear A3 hL hl2 hl64 kb sb HL HKb HSa HKa
      go_wp2_with fail
      clear ra
      refine (refsign_any _ sd 2 _ ms d (unhide HD) wc (unhide SLW wc (unhide HKc)) (unhide HSB) (by omega) (unhide HSb) (unhide HMB) (by omega)).mono ?_
      rintro ee wd ⟨a4, m4, c4, rfl, A4⟩
      obtain ⟨l4, hL4, hl4⟩ := A4.lists (by rw [sgnP, ptsP_len]; omega)
      have HKd := hide ((unhide HKc).trans A4.kp)
      have HLd := hide ((unhide HLc).kept A4.kp)
      have HMd : Hid (LsM (sgnP sd 2 d) (.slice a4 m4 c4) wd) := ⟨l4, hL4, hl4⟩
      obtain ⟨cd, we, rd, sd', kd⟩ := conv_of_string S wd (by omega)
      rw [← unhide HMS] at sd'
      have HKe := hide ((unhide HKd).trans kd)
      have HLe := hide ((unhide HLd).kept kd)
      have HMe : Hid (LsM (sgnP sd 2 d) (.slice a4 m4 c4) we) := stable_lsm _ _ _ _ kd (unhide HMd)
      have HSe := hide sd'
      clear A4 hL4 hl4 kd sd' HLc HLd HMd HKc HKd HSb
      go_wp2_with fail
      clear rb
      refine (digest_any _ ms d (unhide HD) we (unhide HSe) (unhide HMB) (by omega) (unhide GLW we (unhide HKe))).mono ?_
      rintro ee wf ⟨rfl, kf⟩
      obtain ⟨cf, wg, rf, sf, kg⟩ := conv_of_string S wf (by omega)
      rw [← unhide HMS] at sf
      have HKg := hide ((unhide HKe).trans (kf.trans kg))
      have HLg := hide ((unhide HLe).kept (kf.trans kg))
      have HMg : Hid (LsM (sgnP sd 2 d) (.slice a4 m4 c4) wg) := stable_lsm _ _ _ _ (kf.trans kg) (unhide HMe)
      have HSg := hide sf
      clear kf kg sf HKe HLe HMe HSe
      go_wp2_with fail
      clear rd
      refine (refdigest_any _ ms d (unhide HD) wg (unhide HSg) (unhide HMB) (by omega)).mono ?_
      rintro ee wh ⟨rfl, kh⟩
      have HKh := hide ((unhide HKg).trans kh)
      have HLh := hide ((unhide HLg).kept kh)
      have HCL := hide (lists_lsm ⟨l, (unhide HLg).kept kh, unhide HL2⟩ (stable_lsm _ _ _ _ kh (unhide HMg)))
      clear kh HKg HLg HMg HSg
      go_wp2_with fail
      clear rf
      refine (unhide HCL).mono ?_
      rintro ee wi ⟨rfl, ki⟩
      have HKi := hide ((unhide HKh).trans ki)
      have HLi := hide ((unhide HLh).kept ki)
      clear ki HKh HLh HCL
      go_wp2_with fail
      obtain ⟨g3, o3, rfl⟩ : ∃ g o, a3 = some ⟨g, o, none⟩ := by
        obtain ⟨ao, c, e, _, h⟩ := unhide HLi
        obtain ⟨b, off, e2, _⟩ := h 0 (by have := unhide HL64; omega)
        injection e with e3
        exact ⟨b, off, e3.trans e2⟩
      have H32 : Hid (∀ x ∈ l, x.2.length = 32) := fun x hx => by
        have : x.2 ∈ sgnP sd 2 d := by rw [← unhide HL2]; exact List.mem_map.2 ⟨x, hx, rfl⟩
        exact areP_at (areP_sgn sd 2 d) _ this
      go_loopw [6] (fun i wr => ∃ j : Nat, j ≤ 64 ∧ i = .int .i64 j ∧ Kp [] wi wr) (fun i _ => 64 - (intOf i).toNat)
      case atStart => exact ⟨0, by omega, rfl, Kp.refl _ _⟩
      case round =>
        obtain ⟨j, hj, rfl, Kr⟩ := hrel
        clear HKr
        have HKr := hide Kr
        clear Kr
        by_cases hjlt : j < 64
        · have hjlt2 : (j : Int) < 64 := by omega
          have hjl : j < l.length := by have := unhide HL64; omega
          have HLr := hide ((unhide HLi).kept (unhide HKr))
          obtain ⟨ys, hys⟩ : ∃ ys, ys = l.map (·.1) := ⟨_, rfl⟩
          have hysl : ys.length = 64 := by rw [hys, List.length_map]; exact unhide HL64
          have HYL := hide hysl
          have hsrc := lists_src ((unhide HLr).kept ((Kp.refl [] wr).alloc (.cells #[] 22)))
          rw [← hys] at hsrc
          have HSRC := hide hsrc
          have hxs : Hid ((.slice (some ⟨g3, o3, none⟩) 64 c3 : Value) = .slice (some ⟨g3, o3, none⟩) ys.length c3) := by rw [hysl]; rfl
          have HYS := hide hys
          clear hys hysl hsrc
          go_wp2_with (at_builtin; refine wpList_append_rowv rfl (.tmp 51) (.tmp 52) rfl wr.heap.size (.slice (some ⟨wr.heap.size, 0, none⟩) 0 0) [] rfl (rowv_empty wr) ⟨g3, o3, none⟩ c3 ys (unhide hxs) (unhide HSRC).1 (unhide HSRC).2 (by have := unhide HYL; simp; omega) (by simp) ?_; intro a5 m5 c5 w5 R5 s5; refine Hid.out ?_)
          rw [List.nil_append, unhide HYS] at R5
          have K5 : Kp [] wr w5 := ((Kp.refl [] wr).alloc (.cells #[] 22)).then s5.1 (fun i hi => .inr (by simp [Value.ownBlock] at hi; omega))
          have hLr : Lists wr (.slice (some ⟨g3, o3, none⟩) l.length c3) l := by rw [unhide HL64]; exact unhide HLr
          have RS5 := rowS_copy hLr R5 K5
          obtain rfl : m5 = 64 := by have := RS5.1.len; rw [this, List.length_map]; exact unhide HL64
          obtain ⟨g5, rfl, hg5, hj1, hj2, hj3, hfs⟩ := RS5.spot (by omega)
          have hf := hfs j
          obtain ⟨x, hx⟩ : ∃ x, x = l[j] := ⟨_, rfl⟩
          have hxm : x ∈ l := by rw [hx]; exact List.getElem_mem hjl
          have hx32 := unhide H32 x hxm
          have hcj : w5.cell? ⟨g5, j, none⟩ = some x.1 := by
            have := RS5.1.cells (g := g5) rfl j l[j].1 (by simp [List.getElem?_eq_getElem hjl])
            rw [← hx] at this
            simpa [Addr.add_lit] using this
          obtain ⟨hSx, hBx, hAx⟩ := RS5.2 x hxm
          obtain ⟨ax, cx, hxv, hcx, _⟩ := hSx
          rw [hx32] at hxv hcx
          have hcxi : (31 : Int) ≤ (cx : Int) := by omega
          rw [hxv] at hcj
          have hSx2 : Sl w5 (.slice ax 32 cx) x.2 := by rw [← hxv]; exact (RS5.2 x hxm).1
          have RS6 := RS5.set j (.slice ax 31 cx, x.2.take 31) (hSx2.take 31 (by omega)) (hBx.take 31) (fun h => by
            have e := hAx g5 (by rw [hxv, show (Value.slice ax 32 cx).ownBlock = (Value.slice ax 31 cx).ownBlock by cases ax <;> rfl]; exact h) rfl
            rw [e] at hx32
            cases hx32)
          have K6 : Kp [] wr (w5.setCell ⟨g5, j, none⟩ (.slice ax 31 cx)) := K5.setCell (p := ⟨g5, j, none⟩) (.inr hg5) _
          obtain ⟨l6, hl6⟩ : ∃ l6, l6 = l.set j (.slice ax 31 cx, x.2.take 31) := ⟨_, rfl⟩
          rw [← hl6] at RS6
          have hl6l : l6.length = 64 := by rw [hl6, List.length_set]; exact unhide HL64
          have hbad : areP (l6.map (·.2)) = false := areP_bad j (by rw [List.length_map, hl6l]; exact hjlt) (by
            have e : (l6.map (·.2))[j]? = some (x.2.take 31) := by rw [hl6, List.map_set, List.getElem?_set_self (by rw [List.length_map]; exact hjl)]
            obtain ⟨hi, e2⟩ := List.getElem?_eq_some_iff.1 e
            rw [e2]; simp; omega)
          obtain ⟨c7, w7, r7, s7, k7⟩ := conv_of_string S (w5.setCell ⟨g5, j, none⟩ (.slice ax 31 cx)) (by omega)
          rw [← unhide HMS] at s7
          have hsz : (w5.setCell ⟨g5, j, none⟩ (.slice ax 31 cx)).heap.size = w5.heap.size := by simp [World.setCell]
          rw [hsz] at r7 s7
          have HL7 := hide ((RS6.lists (by omega)).kept k7)
          have HS7 := hide s7
          have HK7 := hide ((unhide HKr).trans (K6.trans k7))
          have HBD := hide hbad
          clear R5 s5 K5 hLr RS5 hg5 hj1 hj2 hj3 hfs hx hxm hx32 hSx2 hcx hxv hBx hAx RS6 K6 hl6 hl6l hbad k7 s7 hsz HSRC hxs HYS HYL HLr
          refine hide ?_
          go_wp2_with fail
          refine (root_any _ ms _ l6 d false _ (unhide HD) (unhide HBD).symm rfl w7 (unhide HS7) (unhide HMB) (by omega) (unhide HL7) (unhide GLW w7 ((unhide HKi).trans (unhide HK7)))).mono ?_
          rintro ee w8 ⟨v8, rfl, hRt, K8⟩
          obtain rfl : v8 = .slice none 0 0 := hRt
          have HK8 := hide ((unhide HK7).trans K8)
          clear K8 HK7 HL7 HS7 r7
          go_wp2_with fail
          go_roundw
          case rel => exact ⟨j + 1, by omega, by go_num, unhide HK8⟩
          case measure => simp [intOf]; omega
        · have hjlt3 : ¬ (j : Int) < 64 := by omega
          obtain ⟨wj, hwj⟩ : ∃ wj, wj = wr := ⟨_, rfl⟩
          subst hwj
          have HKj := hide ((unhide HKi).trans (unhide HKr))
          clear HKr HKi HLi H32 HL2 HL64
          go_wp2_with fail
          go_loopw [10] (fun i wr => ∃ q : Nat, q ≤ 40 ∧ i = .int .i64 q ∧ Kp [] w1 wr) (fun i _ => 40 - (intOf i).toNat)
          case atStart => exact ⟨0, by omega, rfl, unhide HKj⟩
          case round =>
            obtain ⟨q, hq, rfl, Kr⟩ := hrel
            clear HKj
            have HKr := hide Kr
            clear Kr
            by_cases hqlt : q < 32
            · have hqlt2 : (q : Int) < 32 := by omega
              obtain ⟨wq, hwq⟩ : ∃ wq, wq = wr := ⟨_, rfl⟩
              subst hwq
              go_wp2_with fail
              go_loopw [11] (fun i wr => ∃ s : Nat, s ≤ 2 ∧ i = .int .i64 s ∧ Kp [] w1 wr) (fun i _ => 2 - (intOf i).toNat)
              case atStart => exact ⟨0, by omega, rfl, unhide HKr⟩
              case round =>
                obtain ⟨s, hs, rfl, Ks⟩ := hrel
                clear HKr
                have HKr := hide Ks
                clear Ks
                by_cases hslt : s < 2
                · have hslt2 : (s : Int) < 2 := by omega
                  obtain ⟨r1, hr1⟩ : ∃ r, r = secP sd 2 (q : Nat) (s : Nat) := ⟨_, rfl⟩
                  obtain ⟨r2, hr2⟩ : ∃ r, r = shnP sd 2 (q : Nat) (s : Nat) := ⟨_, rfl⟩
                  obtain ⟨S1, hS1⟩ : ∃ S, S = strOfNums r1 := ⟨_, rfl⟩
                  obtain ⟨S2, hS2⟩ : ∃ S, S = strOfNums r2 := ⟨_, rfl⟩
                  have HR1 := hide hr1
                  have HR2 := hide hr2
                  have HS1 := hide hS1
                  have HS2 := hide hS2
                  have SLB : ∀ w', Kp [] wr.drew w' → Sl w' (.slice a1 m1 c1) sd := fun w' h => unhide SLW w' ((unhide HKr).trans ((kp_drew wr).trans h))
                  have GL : ∀ w', Kp [] wr.drew w' → Gl w' := fun w' h => unhide GLW w' ((unhide HKr).trans ((kp_drew wr).trans h))
                  clear hr1 hr2 hS1 hS2
                  go_wp2_with fail
                  refine region_grow Tryd.mixed [Is (.slice a1 m1 c1), Is (.int .i64 q), Is (.int .i64 s), SlT (r1), Is (.string S1), Is (.slice a1 m1 c1), Is (.int .i64 q), Is (.int .i64 s), SlT (r1), Is (.string S1), Is (.bool false), Is (.bool false), Is (.slice a1 m1 c1), Is (.int .i64 q), Is (.int .i64 s), SlT (r2), Is (.string S2), Is (.slice a1 m1 c1), Is (.int .i64 q), Is (.int .i64 s), SlT (r2), Is (.string S2), Is (.bool false), Is (.bool false)] [[(1, none)], [(10, none)], [(11, none)], [(83, some 0), (84, some 1), (85, some 2)], [(86, some 3)], [(1, none)], [(10, none)], [(11, none)], [(88, some 5), (89, some 6), (90, some 7)], [(91, some 8)], [(87, some 4), (92, some 9)], [(93, some 10)], [(1, none), (94, some 11)], [(10, none), (94, some 11)], [(11, none), (94, some 11)], [(95, some 12), (96, some 13), (97, some 14), (94, some 11)], [(98, some 15), (94, some 11)], [(1, none), (94, some 11)], [(10, none), (94, some 11)], [(11, none), (94, some 11)], [(100, some 17), (101, some 18), (102, some 19), (94, some 11)], [(103, some 20), (94, some 11)], [(99, some 16), (104, some 21), (94, some 11)], [(94, some 11), (105, some 22)]] (by kernel_rfl) ?_ ?_ ?_
                  · simp only [List.mem_cons, List.not_mem_nil, or_false]
                    intro R hR
                    rcases hR with rfl | rfl | rfl | rfl | rfl | rfl | rfl | rfl | rfl | rfl | rfl | rfl | rfl | rfl | rfl | rfl | rfl | rfl | rfl | rfl | rfl | rfl | rfl | rfl <;> first | exact stable_is _ | exact stable_sl _
                  · refine steps_cons (fun a w hk hn => ?_) ?_
                    · have h1 : a.eval (.tmp 1) = .slice a1 m1 c1 := hn.1
                      clear hn
                      refine wants_plain rfl ?_
                      exact grown_move (.tmp 1) rfl h1
                    refine steps_cons (fun a w hk hn => ?_) ?_
                    · have h10 : a.eval (.tmp 10) = .int .i64 q := hn.1
                      clear hn
                      refine wants_plain rfl ?_
                      exact grown_move (.tmp 10) rfl h10
                    refine steps_cons (fun a w hk hn => ?_) ?_
                    · have h11 : a.eval (.tmp 11) = .int .i64 s := hn.1
                      clear hn
                      refine wants_plain rfl ?_
                      exact grown_move (.tmp 11) rfl h11
                    refine steps_cons (fun a w hk hn => ?_) ?_
                    · have h83 : a.eval (.tmp 83) = .slice a1 m1 c1 := hn.1
                      have h84 : a.eval (.tmp 84) = .int .i64 q := hn.2.1
                      have h85 : a.eval (.tmp 85) = .int .i64 s := hn.2.2.1
                      clear hn
                      refine wants_plain rfl ?_
                      refine grown_call (f := 16) rfl Tryd.func16 (by kernel_rfl) (by kernel_rfl) ?_
                      simp only [List.map_toArray, List.map_cons, List.map_nil, h83, h84, h85]
                      refine (secret_any _ sd 2 q s r1 (unhide HR1) w (SLB w hk) (unhide HSB) (by omega) (GL w hk)).mono ?_
                      rintro e w' ⟨ao, m, c, rfl, R, K⟩
                      exact ⟨_, rfl, K, R.sl⟩
                    refine steps_cons (fun a w hk hn => ?_) ?_
                    · have h86 : Sl w (a.eval (.tmp 86)) (r1) := hn.1
                      clear hn
                      refine wants_plain rfl ?_
                      exact grown_conv (.tmp 86) _ _ 5 _ rfl h86 Tryd.underlying22 Tryd.underlying5 Tryd.underlying9 (congrArg Value.string (unhide HS1).symm)
                    refine steps_cons (fun a w hk hn => ?_) ?_
                    · have h1 : a.eval (.tmp 1) = .slice a1 m1 c1 := hn.1
                      clear hn
                      refine wants_plain rfl ?_
                      exact grown_move (.tmp 1) rfl h1
                    refine steps_cons (fun a w hk hn => ?_) ?_
                    · have h10 : a.eval (.tmp 10) = .int .i64 q := hn.1
                      clear hn
                      refine wants_plain rfl ?_
                      exact grown_move (.tmp 10) rfl h10
                    refine steps_cons (fun a w hk hn => ?_) ?_
                    · have h11 : a.eval (.tmp 11) = .int .i64 s := hn.1
                      clear hn
                      refine wants_plain rfl ?_
                      exact grown_move (.tmp 11) rfl h11
                    refine steps_cons (fun a w hk hn => ?_) ?_
                    · have h88 : a.eval (.tmp 88) = .slice a1 m1 c1 := hn.1
                      have h89 : a.eval (.tmp 89) = .int .i64 q := hn.2.1
                      have h90 : a.eval (.tmp 90) = .int .i64 s := hn.2.2.1
                      clear hn
                      refine wants_plain rfl ?_
                      refine grown_call (f := 17) rfl Tryd.func17 (by kernel_rfl) (by kernel_rfl) ?_
                      simp only [List.map_toArray, List.map_cons, List.map_nil, h88, h89, h90]
                      refine (refsecret_any _ sd 2 q s r1 (unhide HR1) w (SLB w hk) (unhide HSB) (by omega)).mono ?_
                      rintro e w' ⟨ao, m, c, rfl, R, K⟩
                      exact ⟨_, rfl, K, R.sl⟩
                    refine steps_cons (fun a w hk hn => ?_) ?_
                    · have h91 : Sl w (a.eval (.tmp 91)) (r1) := hn.1
                      clear hn
                      refine wants_plain rfl ?_
                      exact grown_conv (.tmp 91) _ _ 5 _ rfl h91 Tryd.underlying22 Tryd.underlying5 Tryd.underlying9 (congrArg Value.string (unhide HS1).symm)
                    refine steps_cons (fun a w hk hn => ?_) ?_
                    · have h87 : a.eval (.tmp 87) = .string S1 := hn.1
                      have h92 : a.eval (.tmp 92) = .string S1 := hn.2.1
                      clear hn
                      refine wants_plain rfl ?_
                      refine grown_run (v := .bool false) ?_ (Kp.refl _ _) rfl
                      obtain ⟨ρ, hρ, hc, hf, hg⟩ := eval_is a
                      rw [hρ] at h87 h92 ⊢
                      simp [go_sem, h87, h92]
                    refine steps_cons (fun a w hk hn => ?_) ?_
                    · have h93 : a.eval (.tmp 93) = .bool false := hn.1
                      clear hn
                      refine wants_plain rfl ?_
                      exact grown_move (.tmp 93) rfl h93
                    refine steps_cons (fun a w hk hn => ?_) ?_
                    · have h1 : a.eval (.tmp 1) = .slice a1 m1 c1 := hn.1
                      have h94 : a.eval (.tmp 94) = .bool false := hn.2.1
                      clear hn
                      refine wants_guard (d := 94) rfl rfl h94 ?_
                      exact grown_move (.tmp 1) rfl h1
                    refine steps_cons (fun a w hk hn => ?_) ?_
                    · have h10 : a.eval (.tmp 10) = .int .i64 q := hn.1
                      have h94 : a.eval (.tmp 94) = .bool false := hn.2.1
                      clear hn
                      refine wants_guard (d := 94) rfl rfl h94 ?_
                      exact grown_move (.tmp 10) rfl h10
                    refine steps_cons (fun a w hk hn => ?_) ?_
                    · have h11 : a.eval (.tmp 11) = .int .i64 s := hn.1
                      have h94 : a.eval (.tmp 94) = .bool false := hn.2.1
                      clear hn
                      refine wants_guard (d := 94) rfl rfl h94 ?_
                      exact grown_move (.tmp 11) rfl h11
                    refine steps_cons (fun a w hk hn => ?_) ?_
                    · have h95 : a.eval (.tmp 95) = .slice a1 m1 c1 := hn.1
                      have h96 : a.eval (.tmp 96) = .int .i64 q := hn.2.1
                      have h97 : a.eval (.tmp 97) = .int .i64 s := hn.2.2.1
                      have h94 : a.eval (.tmp 94) = .bool false := hn.2.2.2.1
                      clear hn
                      refine wants_guard (d := 94) rfl rfl h94 ?_
                      refine grown_call (f := 18) rfl Tryd.func18 (by kernel_rfl) (by kernel_rfl) ?_
                      simp only [List.map_toArray, List.map_cons, List.map_nil, h95, h96, h97]
                      refine (shown_any _ sd 2 q s r2 (unhide HR2) w (SLB w hk) (unhide HSB) (by omega) (GL w hk)).mono ?_
                      rintro e w' ⟨ao, m, c, rfl, R, K⟩
                      exact ⟨_, rfl, K, R.sl⟩
                    refine steps_cons (fun a w hk hn => ?_) ?_
                    · have h98 : Sl w (a.eval (.tmp 98)) (r2) := hn.1
                      have h94 : a.eval (.tmp 94) = .bool false := hn.2.1
                      clear hn
                      refine wants_guard (d := 94) rfl rfl h94 ?_
                      exact grown_conv (.tmp 98) _ _ 5 _ rfl h98 Tryd.underlying22 Tryd.underlying5 Tryd.underlying9 (congrArg Value.string (unhide HS2).symm)
                    refine steps_cons (fun a w hk hn => ?_) ?_
                    · have h1 : a.eval (.tmp 1) = .slice a1 m1 c1 := hn.1
                      have h94 : a.eval (.tmp 94) = .bool false := hn.2.1
                      clear hn
                      refine wants_guard (d := 94) rfl rfl h94 ?_
                      exact grown_move (.tmp 1) rfl h1
                    refine steps_cons (fun a w hk hn => ?_) ?_
                    · have h10 : a.eval (.tmp 10) = .int .i64 q := hn.1
                      have h94 : a.eval (.tmp 94) = .bool false := hn.2.1
                      clear hn
                      refine wants_guard (d := 94) rfl rfl h94 ?_
                      exact grown_move (.tmp 10) rfl h10
                    refine steps_cons (fun a w hk hn => ?_) ?_
                    · have h11 : a.eval (.tmp 11) = .int .i64 s := hn.1
                      have h94 : a.eval (.tmp 94) = .bool false := hn.2.1
                      clear hn
                      refine wants_guard (d := 94) rfl rfl h94 ?_
                      exact grown_move (.tmp 11) rfl h11
                    refine steps_cons (fun a w hk hn => ?_) ?_
                    · have h100 : a.eval (.tmp 100) = .slice a1 m1 c1 := hn.1
                      have h101 : a.eval (.tmp 101) = .int .i64 q := hn.2.1
                      have h102 : a.eval (.tmp 102) = .int .i64 s := hn.2.2.1
                      have h94 : a.eval (.tmp 94) = .bool false := hn.2.2.2.1
                      clear hn
                      refine wants_guard (d := 94) rfl rfl h94 ?_
                      refine grown_call (f := 19) rfl Tryd.func19 (by kernel_rfl) (by kernel_rfl) ?_
                      simp only [List.map_toArray, List.map_cons, List.map_nil, h100, h101, h102]
                      refine (refshown_any _ sd 2 q s r2 (unhide HR2) w (SLB w hk) (unhide HSB) (by omega)).mono ?_
                      rintro e w' ⟨ao, m, c, rfl, R, K⟩
                      exact ⟨_, rfl, K, R.sl⟩
                    refine steps_cons (fun a w hk hn => ?_) ?_
                    · have h103 : Sl w (a.eval (.tmp 103)) (r2) := hn.1
                      have h94 : a.eval (.tmp 94) = .bool false := hn.2.1
                      clear hn
                      refine wants_guard (d := 94) rfl rfl h94 ?_
                      exact grown_conv (.tmp 103) _ _ 5 _ rfl h103 Tryd.underlying22 Tryd.underlying5 Tryd.underlying9 (congrArg Value.string (unhide HS2).symm)
                    refine steps_cons (fun a w hk hn => ?_) ?_
                    · have h99 : a.eval (.tmp 99) = .string S2 := hn.1
                      have h104 : a.eval (.tmp 104) = .string S2 := hn.2.1
                      have h94 : a.eval (.tmp 94) = .bool false := hn.2.2.1
                      clear hn
                      refine wants_guard (d := 94) rfl rfl h94 ?_
                      refine grown_run (v := .bool false) ?_ (Kp.refl _ _) rfl
                      obtain ⟨ρ, hρ, hc, hf, hg⟩ := eval_is a
                      rw [hρ] at h99 h104 ⊢
                      simp [go_sem, h99, h104]
                    refine steps_cons (fun a w hk hn => ?_) ?_
                    · have h94 : a.eval (.tmp 94) = .bool false := hn.1
                      have h105 : a.eval (.tmp 105) = .bool false := hn.2.1
                      clear hn
                      refine wants_plain rfl ?_
                      exact grown_pick _ _ _ false rfl h94 h105
                    exact trivial
                  intro W2 hkW2
                  rintro _ rfl
                  rintro _ rfl
                  rintro _ rfl
                  intro v86 h86
                  rintro _ rfl
                  rintro _ rfl
                  rintro _ rfl
                  rintro _ rfl
                  intro v91 h91
                  rintro _ rfl
                  rintro _ rfl
                  rintro _ rfl
                  rintro _ rfl
                  rintro _ rfl
                  rintro _ rfl
                  intro v98 h98
                  rintro _ rfl
                  rintro _ rfl
                  rintro _ rfl
                  rintro _ rfl
                  intro v103 h103
                  rintro _ rfl
                  rintro _ rfl
                  rintro _ rfl
                  refine fin_nil ?_
                  simp only [Act.put, List.set_cons_zero, List.set_cons_succ, List.setIfInBounds_toArray]
                  clear SLB GL h86 h91 h98 h103
                  go_wp2_with fail
                  go_roundw
                  case rel => exact ⟨s + 1, by omega, by go_num, (unhide HKr).trans ((kp_drew wr).trans hkW2)⟩
                  case measure => simp [intOf]; omega
                · have hslt3 : ¬ (s : Int) < 2 := by omega
                  go_wp2_with fail
                  go_roundw
                  case rel => exact ⟨q + 5, by omega, by go_num, unhide HKr⟩
                  case measure => simp [intOf]; omega
            · have hqlt3 : ¬ (q : Int) < 32 := by omega
              go_wp2_with fail
              go_roundw
              case rel => exact ⟨k + 1, by omega, by go_num, unhide HKr⟩
              case measure => simp [intOf]; omega
    · have hlt3 : ¬ (k : Int) < 3 := by omega
      obtain ⟨r3, hr3⟩ : ∃ r, r = pubP sd 15 := ⟨_, rfl⟩
      obtain ⟨S3, hS3⟩ : ∃ S, S = strOfNums r3 := ⟨_, rfl⟩
      have HR3 := hide hr3
      have HS3 := hide hS3
      have SLB : ∀ w', Kp [] wr.drew w' → Sl w' (.slice a1 m1 c1) sd := fun w' h => unhide SLW w' ((unhide HKr).trans ((kp_drew wr).trans h))
      have GL : ∀ w', Kp [] wr.drew w' → Gl w' := fun w' h => unhide GLW w' ((unhide HKr).trans ((kp_drew wr).trans h))
      clear hr3 hS3 HCE
      go_wp2_with fail
      refine region_grow Tryd.mixed [Is (.slice a1 m1 c1), SlT (r3), Is (.string S3), Is (.slice a1 m1 c1), SlT (r3), Is (.string S3), Is (.bool true), Is (.bool true), Is (.bool true), Is (.bool true), Is (.bool true)] [[(1, none)], [(108, some 0)], [(109, some 1)], [(1, none)], [(111, some 3)], [(112, some 4)], [(110, some 2), (113, some 5)], [(114, some 6)], [(115, some 7)], [(115, some 7), (116, some 8)], [(117, some 9)]] (by kernel_rfl) ?_ ?_ ?_
      · simp only [List.mem_cons, List.not_mem_nil, or_false]
        intro R hR
        rcases hR with rfl | rfl | rfl | rfl | rfl | rfl | rfl | rfl | rfl | rfl | rfl <;> first | exact stable_is _ | exact stable_sl _
      · refine steps_cons (fun a w hk hn => ?_) ?_
        · have h1 : a.eval (.tmp 1) = .slice a1 m1 c1 := hn.1
          clear hn
          refine wants_plain rfl ?_
          exact grown_move (.tmp 1) rfl h1
        refine steps_cons (fun a w hk hn => ?_) ?_
        · have h108 : a.eval (.tmp 108) = .slice a1 m1 c1 := hn.1
          clear hn
          refine wants_plain rfl ?_
          refine grown_call (f := 20) rfl Tryd.func20 (by kernel_rfl) (by kernel_rfl) ?_
          simp only [List.map_toArray, List.map_cons, List.map_nil, h108]
          refine (public_any _ sd 15 r3 (unhide HR3) w (SLB w hk) (unhide HSB) (by omega) (GL w hk)).mono ?_
          rintro e w' ⟨ao, m, c, rfl, R, K⟩
          exact ⟨_, rfl, K, R.sl⟩
        refine steps_cons (fun a w hk hn => ?_) ?_
        · have h109 : Sl w (a.eval (.tmp 109)) (r3) := hn.1
          clear hn
          refine wants_plain rfl ?_
          exact grown_conv (.tmp 109) _ _ 5 _ rfl h109 Tryd.underlying22 Tryd.underlying5 Tryd.underlying9 (congrArg Value.string (unhide HS3).symm)
        refine steps_cons (fun a w hk hn => ?_) ?_
        · have h1 : a.eval (.tmp 1) = .slice a1 m1 c1 := hn.1
          clear hn
          refine wants_plain rfl ?_
          exact grown_move (.tmp 1) rfl h1
        refine steps_cons (fun a w hk hn => ?_) ?_
        · have h111 : a.eval (.tmp 111) = .slice a1 m1 c1 := hn.1
          clear hn
          refine wants_plain rfl ?_
          refine grown_call (f := 21) rfl Tryd.func21 (by kernel_rfl) (by kernel_rfl) ?_
          simp only [List.map_toArray, List.map_cons, List.map_nil, h111]
          refine (refpublic_any _ sd 15 r3 (unhide HR3) w (SLB w hk) (unhide HSB) (by omega)).mono ?_
          rintro e w' ⟨ao, m, c, rfl, R, K⟩
          exact ⟨_, rfl, K, R.sl⟩
        refine steps_cons (fun a w hk hn => ?_) ?_
        · have h112 : Sl w (a.eval (.tmp 112)) (r3) := hn.1
          clear hn
          refine wants_plain rfl ?_
          exact grown_conv (.tmp 112) _ _ 5 _ rfl h112 Tryd.underlying22 Tryd.underlying5 Tryd.underlying9 (congrArg Value.string (unhide HS3).symm)
        refine steps_cons (fun a w hk hn => ?_) ?_
        · have h110 : a.eval (.tmp 110) = .string S3 := hn.1
          have h113 : a.eval (.tmp 113) = .string S3 := hn.2.1
          clear hn
          refine wants_plain rfl ?_
          refine grown_run (v := .bool true) ?_ (Kp.refl _ _) rfl
          obtain ⟨ρ, hρ, hc, hf, hg⟩ := eval_is a
          rw [hρ] at h110 h113 ⊢
          simp [go_sem, h110, h113]
        refine steps_cons (fun a w hk hn => ?_) ?_
        · have h114 : a.eval (.tmp 114) = .bool true := hn.1
          clear hn
          refine wants_plain rfl ?_
          exact grown_move (.tmp 114) rfl h114
        refine steps_cons (fun a w hk hn => ?_) ?_
        · have h115 : a.eval (.tmp 115) = .bool true := hn.1
          clear hn
          refine wants_guard (d := 115) rfl rfl h115 ?_
          refine grown_call (f := 22) rfl Tryd.func22 (by kernel_rfl) (by kernel_rfl) ?_
          simp only [List.map_toArray, List.map_nil]
          refine (known_any w (GL w hk)).mono ?_
          rintro e w' ⟨rfl, K⟩
          exact ⟨_, rfl, K, rfl⟩
        refine steps_cons (fun a w hk hn => ?_) ?_
        · have h115 : a.eval (.tmp 115) = .bool true := hn.1
          have h116 : a.eval (.tmp 116) = .bool true := hn.2.1
          clear hn
          refine wants_plain rfl ?_
          exact grown_pick _ _ _ true rfl h115 h116
        refine steps_cons (fun a w hk hn => ?_) ?_
        · have h117 : a.eval (.tmp 117) = .bool true := hn.1
          clear hn
          refine wants_plain rfl ?_
          exact grown_assign (.tmp 117) rfl h117
        exact trivial
      intro W2 hkW2
      rintro _ rfl
      intro v109 h109
      rintro _ rfl
      rintro _ rfl
      intro v112 h112
      rintro _ rfl
      rintro _ rfl
      rintro _ rfl
      rintro _ rfl
      rintro _ rfl
      rintro _ rfl
      refine fin_nil ?_
      simp only [Act.put, List.set_cons_zero, List.set_cons_succ, List.setIfInBounds_toArray]
      go_wp2_with fail
      go_ret
      exact ⟨rfl, ((unhide HKW).trans ((unhide HKr).trans ((kp_drew wr).trans hkW2))).below (Nat.le_refl _) (by simp)⟩
set_option maxRecDepth 100000 in
theorem lifted (os : Os) (started : os.Started) (H : Type) (enc : TypeId × Value → H) :
    ReturnsInHanded {} Tryd.checked os 3 .any (fun w args => (Rows.onceNumbersSpec.pre enc Tryd.prog Tryd.f3 [] false w args ∧ laidMetH Tryd.prog laid1 w) ∧ sizedMet enc Tryd.prog Tryd.f3 (OpenSpec.ofChange Rows.onceNumbersSpec) false w args) (Rows.onceNumbersSpec.post enc Tryd.prog Tryd.f3 false true false false) := by
  refine returnsInHanded_of_change_and (C := Tryd.checked) (X := fun w _ => laidMetH Tryd.prog laid1 w) (fun _ _ _ hh h => h.of_heap hh) own started (by kernel_rfl) Tryd.func3
    (ChangeSpec.witness_shaped (enc := enc) (C := Tryd.checked) (os := os) (X := fun w _ => laidMetH Tryd.prog laid1 w) false (World.doorLaid Tryd.prog 400 os) #[] 8 rfl (World.shaped_of_RefB (by kernel_rfl) (by kernel_rfl)) (by kernel_rfl) (by kernel_rfl) (by kernel_rfl) (door_met os _)) ?_
  intro W base args ds gs before hval0 hW hcnd hsz0 hL _
  have hG := gl_of_laid hL
  have hval : ∀ (j : Nat) t v, Tryd.f3.params[j]? = some t → args[j]? = some v → Value.okWide Tryd.prog W .any base t v := hval0
  have hW' := hW
  obtain ⟨p, q, hA0, hV, rfl, hfz, hnd⟩ := hW
  have hA : DataW.TrodAll enc Tryd.prog W 0 (fun _ => true) true Tryd.f3.params.toList args.toList ds p := hA0
  rw [Tryd.params3] at hA hval
  obtain ⟨hargs, rfl, rfl⟩ := trodAll_nil hA
  obtain rfl : args = #[] := by cases args; simp_all
  obtain ⟨rfl, rfl⟩ := trodVars_none hV
  clear hA0 hval0
  refine (walk  W hG).mono fun e W' ⟨he, bel⟩ => ?_
  subst he
  exact ⟨_, rfl, _, _, _, [], _, [], hW', trodAll_mk1 (shut_bool Tryd.underlying4 _), trodAll_mk0, rfl, bel.frame _, fun h => by cases h⟩

theorem over : Rows.onceNumbersRow.holds Tryd.pinned (OpenSpec.ofChange Rows.onceNumbersSpec) :=
  OpenClaim.holds_of_wide 3 Tryd.f3 rfl rfl rfl rfl rfl rfl rfl ⟨rfl, rfl, rfl, rfl, rfl⟩ rfl rfl rfl rfl rfl (by kernel_rfl) Tryd.func3 (by kernel_rfl)
    (of_decide_eq_true (by kernel_rfl)) (by unfold Func.isWrapper; first | (rw [if_pos (by decide +kernel)]; kernel_rfl) | (rw [if_neg (by decide +kernel)]; exact ⟨rfl, rfl⟩))
    (fun os started H enc _ => lifted os started H enc)
end Go.Proofs.YtacfciimialobaaDoor.onceNumbers

namespace Go.Proofs.YtacfciimialobaaDoor
/-- The given statement: the tied card. -/
theorem OnceNumbers_holds : Rows.OnceNumbersCardSaid :=
  Claim7.holds_tied_plain_at .later [] [.data] true Rows.onceNumbersCard.stood.harness false
    onceNumbers.over (fun _ h => by cases h) (by kernel_rfl) (fun _ h => by cases h) onceNumbers_row_tie rfl ⟨rfl, rfl⟩ (by kernel_rfl) rfl
    (fun f fn hf hfn => by
      obtain rfl : f = 3 := Option.some.inj ((show Tryd.prog.funcNamed "broadsheet/broadsheetlaw4.OnceNumbers" = some 3 by kernel_rfl).symm.trans hf) |>.symm
      obtain rfl : fn = Tryd.f3 := (Option.some.inj (Tryd.func3.symm.trans hfn)).symm
      exact ⟨by kernel_rfl, fun j t ht => by
        rw [Tryd.params3] at ht
        have hm : t ∈ ([] : List TypeId) := by simpa using Array.mem_of_getElem? ht
        have hall : (([] : List TypeId).all fun u => !Tryd.prog.wantsStandIn u) = true := by kernel_rfl
        exact (show Tryd.prog.wantsStandIn t = false by simpa using List.all_eq_true.1 hall t hm)⟩)
    (by kernel_rfl)
#print axioms OnceNumbers_holds
end Go.Proofs.YtacfciimialobaaDoor
