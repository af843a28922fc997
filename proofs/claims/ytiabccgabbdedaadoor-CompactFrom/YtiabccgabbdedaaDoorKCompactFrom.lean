/-
  The statement CompactFromCardSaid: for all items and cuts the law function CompactFrom returns true and leaves its arguments as they were; the tables hash.roundWords, math/bits' deBruijn32tab and deBruijn64tab start as the program's text lays them (tied). No other condition.
-/
import Derived.Test.YtiabccgabbdedaaDoorKCTwo
import Derived.Test.YtiabccgabbdedaaDoorTie
import Derived.Test.YtiabccgabbdedaaDoorCards
import Derived.SevenTiedAt
namespace Go.Proofs.YtiabccgabbdedaaDoor.compactFrom
open Go.ChangeShapes Go.WideShapes Go.ChangeAt Go.RowKit
open Go.Proofs.YtiabccgabbdedaaDoor
set_option linter.unusedVariables false

set_option maxRecDepth 100000 in
set_option maxHeartbeats 8000000 in
theorem walk (v0 : Value) (l0 : List (Value × List Int)) (v1 : Value) (zs : List Int) (w : World) (hG : Gl w) (hL0 : Lists w v0 l0) (hZ : Ints w v1 zs) :
    Calls Tryd.prog 5 #[v0, v1] w fun e w' => e = .returned (.bool true) ∧ Below w.heap.size w w' := by
  have HG := hide hG
  have HB0 := hide hL0.bs
  have HC1 := hide (few_any v0 l0 40 40 w hL0 (by omega))
  obtain ⟨fs, hfs⟩ : ∃ fs, fs = (l0.take (min 40 l0.length)).map fun x => x.2.take 40 := ⟨_, rfl⟩
  have HFS := hide hfs
  have HFL : Hid (fs.length ≤ 40) := by rw [hfs]; exact hide (by simp; omega)
  have HFM : Hid (∀ x ∈ fs, x.length ≤ 1000) := by
    rw [hfs]
    intro x hx
    obtain ⟨y, _, rfl⟩ := List.mem_map.1 hx
    simp; omega
  obtain ⟨ls, hls⟩ : ∃ ls, ls = fs.map tleafP := ⟨_, rfl⟩
  have HLS := hide hls
  have hln : ls.length ≤ 40 := by rw [hls, List.length_map]; exact unhide HFL
  have HL32 : Hid (∀ x ∈ ls, x.length = 32) := by
    rw [hls]
    intro x hx
    obtain ⟨y, _, rfl⟩ := List.mem_map.1 hx
    exact sha_len _
  have HLM : Hid (∀ x ∈ ls, x.length ≤ 1000) := fun x hx => by rw [unhide HL32 x hx]; omega
  have HZ := hide hZ
  obtain ⟨az, cz, hvz, hz1, -, -⟩ := hZ
  obtain ⟨nz, hnz⟩ : ∃ n, n = zs.length := ⟨_, rfl⟩
  rw [← hnz] at hvz hz1
  subst hvz
  have HNZ := hide hnz
  have hnzb : nz ≤ 9223372036854775807 := by unfold maxLen at hz1; omega
  clear hG hfs hls hnz hz1
  obtain ⟨al, cl, hv, -⟩ := hL0
  obtain ⟨nl, hnl⟩ : ∃ n, n = l0.length := ⟨_, rfl⟩
  rw [← hnl] at hv
  subst hv
  clear hnl
  go_enter Tryd.func5, Tryd.ntmps5
  go_wp2_with fail
  refine (unhide HC1).mono ?_
  rintro ee w1 ⟨o1, rfl, F1⟩
  have K1 : Kp [] w w1 := by obtain ⟨_, _, _, h, _⟩ := F1; exact h
  have M1 : LcM fs o1 w1 := by rw [unhide HFS]; exact F1.lc (unhide HB0) (by omega)
  obtain ⟨ao1, co1, hv1, -⟩ := M1.shape
  obtain ⟨no1, hno1⟩ : ∃ n, n = fs.length := ⟨_, rfl⟩
  rw [← hno1] at hv1
  subst hv1
  have HC2 := hide (rleaves_any _ fs w1 M1 (Nat.le_trans (unhide HFL) (by omega)) (unhide HFM))
  have HK1 := hide K1
  clear K1 M1 F1 hno1 HC1
  go_wp2_with fail
  refine (unhide HC2).mono ?_
  rintro ee w2 ⟨a2, m2, c2, rfl, A2⟩
  rw [← unhide HLS] at A2
  have hm2 := A2.cap
  have M2 : LcM ls (.slice a2 m2 c2) w2 := A2.lc (by omega)
  have HM2 := hide M2
  have HK2 := hide ((unhide HK1).trans A2.kp)
  have hG2 := (unhide HG).kept (unhide HK2) (by simp)
  have HG2 := hide hG2
  have HC3 := hide (new_any w2 hG2.pos)
  obtain ⟨N, hN⟩ : ∃ N, N = ls.length := ⟨_, rfl⟩
  rw [← hN] at hm2 hln
  obtain rfl : N = m2 := hm2.symm
  have HN := hide hN
  clear A2 M2 HC2 hG2 hN HK1
  go_wp2_with fail
  refine (unhide HC3).mono ?_
  rintro ee w3 ⟨p, rfl, R3, K3, P1, P2⟩
  have HC4 := hide (new_any w3 (Nat.le_trans (unhide HG2).pos K3.size))
  have HR3 := hide R3
  have HK3 := hide K3
  clear HC3 R3 K3
  go_wp2_with fail
  refine (unhide HC4).mono ?_
  rintro ee w4 ⟨q0, rfl, R4, K4, Q1, Q2⟩
  have HG4 := hide (gr2_new (w0 := w2) (unhide HR3) R4 (unhide HK3) K4 P1 P2 Q1)
  clear HC4 HR3 R4 K4 HK3 P1 P2 Q1 Q2
  go_wp2_with fail
  go_loopw [7, 8] (fun vq i wr => ∃ k q : Nat, k ≤ N ∧ vq = .pointer (some ⟨q, 0, none⟩) ∧ i = .int .i64 k ∧ Gr2 w2 (ls.take k) (ls.take k) p q wr) (fun _ i _ => N - (intOf i).toNat)
  case atStart => exact ⟨0, q0, by omega, rfl, rfl, by simpa using unhide HG4⟩
  case round =>
    clear HG4
    obtain ⟨k, q, hk, rfl, rfl, hGr⟩ := hrel
    by_cases hlt : k < N
    · have hlt2 : (k : Int) < (N : Int) := by omega
      have hkl : k < ls.length := by have := unhide HN; omega
      have hx := List.getElem?_eq_getElem hkl
      have hxl := unhide HLM _ (List.getElem_mem hkl)
      have HT := hide (List.take_succ_eq_append_getElem hkl)
      obtain ⟨x, hxx⟩ : ∃ x, x = ls[k] := ⟨_, rfl⟩
      rw [← hxx] at hx hxl HT
      have htl : (ls.take k).length = k := by rw [List.length_take]; omega
      have HTL := hide htl
      have HTK : Hid (∀ x ∈ ls.take k, x.length ≤ 1000) := fun x hx => unhide HLM x (List.mem_of_mem_take hx)
      have HTK2 : Hid (∀ x ∈ ls.take (k + 1), x.length ≤ 1000) := fun x hx => unhide HLM x (List.mem_of_mem_take hx)
      have HTL2 : Hid ((ls.take (k + 1)).length = k + 1) := hide (by rw [List.length_take]; omega)
      obtain ⟨b, off, rfl⟩ : ∃ b off, a2 = some ⟨b, off, none⟩ := by
        obtain ⟨-, b, off, u, e, -⟩ := (unhide HM2).at k x hx
        exact ⟨b, off, e⟩
      have HX : Hid (∃ ax nx cx, ∀ W, Kp [] w2 W → W.cell? ⟨b, off + k, none⟩ = some (.slice ax nx cx) ∧ Sl W (.slice ax nx cx) x ∧ Bs x) := by
        obtain ⟨-, b', off', u, e, hc, hS, hB⟩ := (unhide HM2).at k x hx
        cases e
        have hS' := hS
        obtain ⟨ax, cx, hux, -⟩ := hS'
        subst hux
        exact ⟨ax, _, cx, fun W kW => ⟨kW.cell hc (by simp), hS.kept kW (by simp), hB⟩⟩
      obtain ⟨ax, nx, cx, HX'⟩ := unhide HX
      have HX2 := hide HX'
      obtain ⟨r, hr⟩ : ∃ r, r = trootP (ls.take (k + 1)) := ⟨_, rfl⟩
      have HR := hide hr
      obtain ⟨S, hSS⟩ : ∃ S, S = strOfNums r := ⟨_, rfl⟩
      have HS := hide hSS
      have HGr := hide hGr
      have HWr := hide ((unhide HK2).trans hGr.kp)
      have HKr := hide hGr.kp
      clear hGr hkl hx hxx htl HX HX' hr hSS
      by_cases hz : k < nz
      · have hzi : (k : Int) < (nz : Int) := by omega
        have hzl : k < zs.length := by have := unhide HNZ; omega
        obtain ⟨za, hza⟩ : ∃ a, az = some a ∧ ∀ W, Kp [] w W → W.cell? (a.add k) = some (.int .i64 zs[k]) := by
          obtain ⟨ao, c, e, _, _, hcell⟩ := unhide HZ
          injection e with e _ _
          subst e
          obtain ⟨ad, e2, hc⟩ := hcell k hzl
          exact ⟨ad, e2, fun W kW => kW.cell hc (by simp)⟩
        obtain ⟨rfl, hzc⟩ := hza
        have hzw := hzc wr (unhide HWr)
        obtain ⟨z, hzz⟩ : ∃ z, z = zs[k] := ⟨_, rfl⟩
        rw [← hzz] at hzw
        have hzbd : -9223372036854775808 ≤ z ∧ z ≤ 9223372036854775807 := by
          obtain ⟨_, _, _, _, hbd, _⟩ := unhide HZ
          rw [hzz]; exact hbd _ (List.getElem_mem hzl)
        clear hzc hzz hzl hz
        by_cases h3 : z.tmod 3 = 0
        · have HSZ := hide (gr_size w2 (ls.take k) q wr (unhide HGr).right (by have := unhide HTL; omega))
          rw [unhide HTL] at HSZ
          have HND := hide (gr_nodes w2 (ls.take k) q wr (unhide HGr).right (by have := unhide HTL; omega) (unhide HTK))
          have HCL : Hid ((cndP 21 (ls.take k)).length = onesP k) := hide (by rw [cndP_len 21 _ (by have := unhide HTL; omega), unhide HTL])
          have HC32 : Hid (all32 (cndP 21 (ls.take k)) = true) := all32_iff.2 (cnd_32 _ (fun x hx => unhide HL32 x (List.mem_of_mem_take hx)))
          have HCS : Hid ((cndP 21 (ls.take k)).length ≤ 21) := cnd_small _ (by have := unhide HTL; omega)
          go_wp2_with (first
            | (go_at_call 17; refine (unhide HSZ).mono ?_; rintro e w5 ⟨rfl, hw5⟩; subst w5)
            | (go_at_call 18; refine (unhide HND).mono ?_; rintro e w5 ⟨a5, m5, c5, rfl, A5⟩; refine Hid.out ?_))
          have L5 : LcM (cndP 21 (ls.take k)) (.slice a5 m5 c5) w5 := A5.lc (by have := unhide HCS; omega)
          have HK5 := hide A5.kp
          have HFO := hide (from_ok k (by omega) _ _ w5 L5 (unhide HCL) (unhide HC32) (by have := unhide HCS; omega) (Nat.le_trans (unhide HG2).pos (Nat.le_trans (unhide HKr).size A5.kp.size)))
          clear A5 L5 HND HSZ
          refine hide ?_
          go_wp2_with fail
          refine (unhide HFO).mono ?_
          rintro e w6 ⟨rfl, F6⟩
          have hG6 := gr2_from (unhide HGr) (unhide HK5) (by rw [unhide HTL]; exact F6)
          obtain ⟨q', hq'⟩ : ∃ q', q' = w5.heap.size := ⟨_, rfl⟩
          rw [← hq'] at hG6 ⊢
          have HGr6 := hide hG6
          clear HFO F6 hG6 hq' HGr HK5 hzw
          have L6 := unhide HX2 w6 (unhide HGr6).kp
          have hc6 := L6.1
          have HA6 := hide (gr2_append w2 (ls.take k) (ls.take k) p q' (.slice ax nx cx) x w6 (unhide HGr6) L6.2.1 L6.2.2 hxl (by have := unhide HTL; omega) (unhide HTK) (unhide HG2))
          rw [← unhide HT] at HA6
          clear L6
          go_wp2_with fail
          refine (unhide HA6).mono ?_
          rintro e w7 ⟨rfl, G7⟩
          have L7 := unhide HX2 w7 G7.kp
          have hc7 := L7.1
          have HA7 := hide (gr2_append w2 (ls.take k) (ls.take (k + 1)) q' p (.slice ax nx cx) x w7 G7.swap L7.2.1 L7.2.2 hxl (by have := unhide HTL; omega) (unhide HTK) (unhide HG2))
          rw [← unhide HT] at HA7
          clear L7 G7 HA6 hc6
          go_wp2_with fail
          refine (unhide HA7).mono ?_
          rintro e w8 ⟨rfl, G8⟩
          have HGa : Hid (∀ w', Kp [] w8.drew w' → Gr w2 (ls.take (k + 1)) p w') := fun w' k' => (G8.mid ((kp_drew w8).trans k')).right
          have HGb : Hid (∀ w', Kp [] w8.drew w' → Gr w2 (ls.take (k + 1)) q' w') := fun w' k' => (G8.mid ((kp_drew w8).trans k')).left
          have HG8 := hide G8.swap
          have HK21 : Hid ((cndP 21 (ls.take (k + 1))).length ≤ 1000) := hide (Nat.le_trans (cnd_small _ (by have := unhide HTL2; omega)) (by omega))
          clear HA7 hc7 G8
          go_wp2_with fail
          refine region_grow Tryd.mixed [Is (.pointer (some ⟨p, 0, none⟩)), Is (.int .i64 ((k + 1 : Nat) : Int)), Is (.pointer (some ⟨q', 0, none⟩)), Is (.int .i64 ((k + 1 : Nat) : Int)), Is (.bool false), Is (.bool false), Is (.pointer (some ⟨p, 0, none⟩)), SlT (r), Is (.string S), Is (.pointer (some ⟨q', 0, none⟩)), SlT (r), Is (.string S), Is (.bool false), Is (.bool false), Is (.bool false), Is (.pointer (some ⟨p, 0, none⟩)), LsM (cndP 21 (ls.take (k + 1))), Is (.pointer (some ⟨q', 0, none⟩)), LsM (cndP 21 (ls.take (k + 1))), Is (.bool true), Is (.bool false), Is (.bool false)] [[(6, none)], [(67, some 0)], [(7, none)], [(69, some 2)], [(68, some 1), (70, some 3)], [(71, some 4)], [(6, none), (72, some 5)], [(73, some 6), (72, some 5)], [(74, some 7), (72, some 5)], [(7, none), (72, some 5)], [(76, some 9), (72, some 5)], [(77, some 10), (72, some 5)], [(75, some 8), (78, some 11), (72, some 5)], [(72, some 5), (79, some 12)], [(80, some 13)], [(6, none), (81, some 14)], [(82, some 15), (81, some 14)], [(7, none), (81, some 14)], [(84, some 17), (81, some 14)], [(83, some 16), (85, some 18), (81, some 14)], [(86, some 19), (81, some 14)], [(81, some 14), (87, some 20)]] (by kernel_rfl) ?_ ?_ ?_
          · simp only [List.mem_cons, List.not_mem_nil, or_false]
            intro R hR
            rcases hR with rfl | rfl | rfl | rfl | rfl | rfl | rfl | rfl | rfl | rfl | rfl | rfl | rfl | rfl | rfl | rfl | rfl | rfl | rfl | rfl | rfl | rfl <;> first | exact stable_is _ | exact stable_sl _ | exact stable_lsm _
          · refine steps_cons (fun a w hk hn => ?_) ?_
            · have h6 : a.eval (.tmp 6) = .pointer (some ⟨p, 0, none⟩) := hn.1
              clear hn
              refine wants_plain rfl ?_
              exact grown_move (.tmp 6) rfl h6
            refine steps_cons (fun a w hk hn => ?_) ?_
            · have h67 : a.eval (.tmp 67) = .pointer (some ⟨p, 0, none⟩) := hn.1
              clear hn
              refine wants_plain rfl ?_
              refine grown_call (f := 17) rfl Tryd.func17 (by kernel_rfl) (by kernel_rfl) ?_
              simp only [List.map_toArray, List.map_cons, List.map_nil, h67]
              refine (gr_size w2 (ls.take (k + 1)) p w (unhide HGa w hk) (by have := unhide HTL2; omega)).mono ?_
              rw [unhide HTL2]
              rintro e w' ⟨rfl, rfl⟩
              exact ⟨_, rfl, Kp.refl _ _, rfl⟩
            refine steps_cons (fun a w hk hn => ?_) ?_
            · have h7 : a.eval (.tmp 7) = .pointer (some ⟨q', 0, none⟩) := hn.1
              clear hn
              refine wants_plain rfl ?_
              exact grown_move (.tmp 7) rfl h7
            refine steps_cons (fun a w hk hn => ?_) ?_
            · have h69 : a.eval (.tmp 69) = .pointer (some ⟨q', 0, none⟩) := hn.1
              clear hn
              refine wants_plain rfl ?_
              refine grown_call (f := 17) rfl Tryd.func17 (by kernel_rfl) (by kernel_rfl) ?_
              simp only [List.map_toArray, List.map_cons, List.map_nil, h69]
              refine (gr_size w2 (ls.take (k + 1)) q' w (unhide HGb w hk) (by have := unhide HTL2; omega)).mono ?_
              rw [unhide HTL2]
              rintro e w' ⟨rfl, rfl⟩
              exact ⟨_, rfl, Kp.refl _ _, rfl⟩
            refine steps_cons (fun a w hk hn => ?_) ?_
            · have h68 : a.eval (.tmp 68) = .int .i64 ((k + 1 : Nat) : Int) := hn.1
              have h70 : a.eval (.tmp 70) = .int .i64 ((k + 1 : Nat) : Int) := hn.2.1
              clear hn
              refine wants_plain rfl ?_
              refine grown_run (v := .bool false) ?_ (Kp.refl _ _) rfl
              obtain ⟨ρ, hρ, hc, hf, hg⟩ := eval_is a
              rw [hρ] at h68 h70 ⊢
              simp [go_sem, h68, h70]
            refine steps_cons (fun a w hk hn => ?_) ?_
            · have h71 : a.eval (.tmp 71) = .bool false := hn.1
              clear hn
              refine wants_plain rfl ?_
              exact grown_move (.tmp 71) rfl h71
            refine steps_cons (fun a w hk hn => ?_) ?_
            · have h6 : a.eval (.tmp 6) = .pointer (some ⟨p, 0, none⟩) := hn.1
              have h72 : a.eval (.tmp 72) = .bool false := hn.2.1
              clear hn
              refine wants_guard (d := 72) rfl rfl h72 ?_
              exact grown_move (.tmp 6) rfl h6
            refine steps_cons (fun a w hk hn => ?_) ?_
            · have h73 : a.eval (.tmp 73) = .pointer (some ⟨p, 0, none⟩) := hn.1
              have h72 : a.eval (.tmp 72) = .bool false := hn.2.1
              clear hn
              refine wants_guard (d := 72) rfl rfl h72 ?_
              refine grown_call (f := 19) rfl Tryd.func19 (by kernel_rfl) (by kernel_rfl) ?_
              simp only [List.map_toArray, List.map_cons, List.map_nil, h73]
              refine (gr_root w2 (ls.take (k + 1)) p r (unhide HR) w (unhide HGa w hk) (by have := unhide HTL2; omega) (unhide HTK2) (unhide HG2)).mono ?_
              rintro e w' ⟨ao, m, c, rfl, R, K⟩
              exact ⟨_, rfl, K, R.sl⟩
            refine steps_cons (fun a w hk hn => ?_) ?_
            · have h74 : Sl w (a.eval (.tmp 74)) (r) := hn.1
              have h72 : a.eval (.tmp 72) = .bool false := hn.2.1
              clear hn
              refine wants_guard (d := 72) rfl rfl h72 ?_
              exact grown_conv (.tmp 74) _ _ 5 _ rfl h74 Tryd.underlying28 Tryd.underlying5 Tryd.underlying9 (congrArg Value.string (unhide HS).symm)
            refine steps_cons (fun a w hk hn => ?_) ?_
            · have h7 : a.eval (.tmp 7) = .pointer (some ⟨q', 0, none⟩) := hn.1
              have h72 : a.eval (.tmp 72) = .bool false := hn.2.1
              clear hn
              refine wants_guard (d := 72) rfl rfl h72 ?_
              exact grown_move (.tmp 7) rfl h7
            refine steps_cons (fun a w hk hn => ?_) ?_
            · have h76 : a.eval (.tmp 76) = .pointer (some ⟨q', 0, none⟩) := hn.1
              have h72 : a.eval (.tmp 72) = .bool false := hn.2.1
              clear hn
              refine wants_guard (d := 72) rfl rfl h72 ?_
              refine grown_call (f := 19) rfl Tryd.func19 (by kernel_rfl) (by kernel_rfl) ?_
              simp only [List.map_toArray, List.map_cons, List.map_nil, h76]
              refine (gr_root w2 (ls.take (k + 1)) q' r (unhide HR) w (unhide HGb w hk) (by have := unhide HTL2; omega) (unhide HTK2) (unhide HG2)).mono ?_
              rintro e w' ⟨ao, m, c, rfl, R, K⟩
              exact ⟨_, rfl, K, R.sl⟩
            refine steps_cons (fun a w hk hn => ?_) ?_
            · have h77 : Sl w (a.eval (.tmp 77)) (r) := hn.1
              have h72 : a.eval (.tmp 72) = .bool false := hn.2.1
              clear hn
              refine wants_guard (d := 72) rfl rfl h72 ?_
              exact grown_conv (.tmp 77) _ _ 5 _ rfl h77 Tryd.underlying28 Tryd.underlying5 Tryd.underlying9 (congrArg Value.string (unhide HS).symm)
            refine steps_cons (fun a w hk hn => ?_) ?_
            · have h75 : a.eval (.tmp 75) = .string S := hn.1
              have h78 : a.eval (.tmp 78) = .string S := hn.2.1
              have h72 : a.eval (.tmp 72) = .bool false := hn.2.2.1
              clear hn
              refine wants_guard (d := 72) rfl rfl h72 ?_
              refine grown_run (v := .bool false) ?_ (Kp.refl _ _) rfl
              obtain ⟨ρ, hρ, hc, hf, hg⟩ := eval_is a
              rw [hρ] at h75 h78 ⊢
              simp [go_sem, h75, h78]
            refine steps_cons (fun a w hk hn => ?_) ?_
            · have h72 : a.eval (.tmp 72) = .bool false := hn.1
              have h79 : a.eval (.tmp 79) = .bool false := hn.2.1
              clear hn
              refine wants_plain rfl ?_
              exact grown_pick _ _ _ false rfl h72 h79
            refine steps_cons (fun a w hk hn => ?_) ?_
            · have h80 : a.eval (.tmp 80) = .bool false := hn.1
              clear hn
              refine wants_plain rfl ?_
              exact grown_move (.tmp 80) rfl h80
            refine steps_cons (fun a w hk hn => ?_) ?_
            · have h6 : a.eval (.tmp 6) = .pointer (some ⟨p, 0, none⟩) := hn.1
              have h81 : a.eval (.tmp 81) = .bool false := hn.2.1
              clear hn
              refine wants_guard (d := 81) rfl rfl h81 ?_
              exact grown_move (.tmp 6) rfl h6
            refine steps_cons (fun a w hk hn => ?_) ?_
            · have h82 : a.eval (.tmp 82) = .pointer (some ⟨p, 0, none⟩) := hn.1
              have h81 : a.eval (.tmp 81) = .bool false := hn.2.1
              clear hn
              refine wants_guard (d := 81) rfl rfl h81 ?_
              refine grown_call (f := 18) rfl Tryd.func18 (by kernel_rfl) (by kernel_rfl) ?_
              simp only [List.map_toArray, List.map_cons, List.map_nil, h82]
              refine (gr_nodes w2 (ls.take (k + 1)) p w (unhide HGa w hk) (by have := unhide HTL2; omega) (unhide HTK2)).mono ?_
              rintro e w' ⟨ao, m, c, rfl, A⟩
              exact ⟨_, rfl, A.kp, A.lists (unhide HK21)⟩
            refine steps_cons (fun a w hk hn => ?_) ?_
            · have h7 : a.eval (.tmp 7) = .pointer (some ⟨q', 0, none⟩) := hn.1
              have h81 : a.eval (.tmp 81) = .bool false := hn.2.1
              clear hn
              refine wants_guard (d := 81) rfl rfl h81 ?_
              exact grown_move (.tmp 7) rfl h7
            refine steps_cons (fun a w hk hn => ?_) ?_
            · have h84 : a.eval (.tmp 84) = .pointer (some ⟨q', 0, none⟩) := hn.1
              have h81 : a.eval (.tmp 81) = .bool false := hn.2.1
              clear hn
              refine wants_guard (d := 81) rfl rfl h81 ?_
              refine grown_call (f := 18) rfl Tryd.func18 (by kernel_rfl) (by kernel_rfl) ?_
              simp only [List.map_toArray, List.map_cons, List.map_nil, h84]
              refine (gr_nodes w2 (ls.take (k + 1)) q' w (unhide HGb w hk) (by have := unhide HTL2; omega) (unhide HTK2)).mono ?_
              rintro e w' ⟨ao, m, c, rfl, A⟩
              exact ⟨_, rfl, A.kp, A.lists (unhide HK21)⟩
            refine steps_cons (fun a w hk hn => ?_) ?_
            · have h83 : (LsM (cndP 21 (ls.take (k + 1)))) (a.eval (.tmp 83)) w := hn.1
              have h85 : (LsM (cndP 21 (ls.take (k + 1)))) (a.eval (.tmp 85)) w := hn.2.1
              have h81 : a.eval (.tmp 81) = .bool false := hn.2.2.1
              clear hn
              refine wants_guard (d := 81) rfl rfl h81 ?_
              refine grown_call (f := 20) rfl Tryd.func20 (by kernel_rfl) (by kernel_rfl) ?_
              simp only [List.map_toArray, List.map_cons, List.map_nil]
              refine (lists_lsm h83 h85).mono ?_
              rintro e w' ⟨rfl, K⟩
              exact ⟨_, rfl, K, rfl⟩
            refine steps_cons (fun a w hk hn => ?_) ?_
            · have h86 : a.eval (.tmp 86) = .bool true := hn.1
              have h81 : a.eval (.tmp 81) = .bool false := hn.2.1
              clear hn
              refine wants_guard (d := 81) rfl rfl h81 ?_
              refine grown_run (v := .bool false) ?_ (Kp.refl _ _) rfl
              obtain ⟨ρ, hρ, hc, hf, hg⟩ := eval_is a
              rw [hρ] at h86 ⊢
              simp [go_sem, h86]
            refine steps_cons (fun a w hk hn => ?_) ?_
            · have h81 : a.eval (.tmp 81) = .bool false := hn.1
              have h87 : a.eval (.tmp 87) = .bool false := hn.2.1
              clear hn
              refine wants_plain rfl ?_
              exact grown_pick _ _ _ false rfl h81 h87
            exact trivial
          intro W1 hkW1
          rintro _ rfl
          rintro _ rfl
          rintro _ rfl
          rintro _ rfl
          rintro _ rfl
          rintro _ rfl
          rintro _ rfl
          intro v74 h74
          rintro _ rfl
          rintro _ rfl
          intro v77 h77
          rintro _ rfl
          rintro _ rfl
          rintro _ rfl
          rintro _ rfl
          rintro _ rfl
          intro v83 h83
          rintro _ rfl
          intro v85 h85
          rintro _ rfl
          rintro _ rfl
          rintro _ rfl
          refine fin_nil ?_
          simp only [Act.put, List.set_cons_zero, List.set_cons_succ, List.setIfInBounds_toArray]
          have HG9 := hide ((unhide HG8).mid ((kp_drew w8).trans hkW1))
          clear h74 h77 h83 h85 hkW1 HGa HGb HG8
          go_wp2_with fail
          go_roundw
          case rel => exact ⟨k + 1, q', by omega, rfl, by go_num, unhide HG9⟩
          case measure => simp [intOf]; omega
        · clear hzbd
          have L6 := unhide HX2 wr (unhide HGr).kp
          have hc6 := L6.1
          have HA6 := hide (gr2_append w2 (ls.take k) (ls.take k) p q (.slice ax nx cx) x wr (unhide HGr) L6.2.1 L6.2.2 hxl (by have := unhide HTL; omega) (unhide HTK) (unhide HG2))
          rw [← unhide HT] at HA6
          clear L6
          go_wp2_with fail
          refine (unhide HA6).mono ?_
          rintro e w7 ⟨rfl, G7⟩
          have L7 := unhide HX2 w7 G7.kp
          have hc7 := L7.1
          have HA7 := hide (gr2_append w2 (ls.take k) (ls.take (k + 1)) q p (.slice ax nx cx) x w7 G7.swap L7.2.1 L7.2.2 hxl (by have := unhide HTL; omega) (unhide HTK) (unhide HG2))
          rw [← unhide HT] at HA7
          clear L7 G7 HA6 hc6
          go_wp2_with fail
          refine (unhide HA7).mono ?_
          rintro e w8 ⟨rfl, G8⟩
          have HGa : Hid (∀ w', Kp [] w8.drew w' → Gr w2 (ls.take (k + 1)) p w') := fun w' k' => (G8.mid ((kp_drew w8).trans k')).right
          have HGb : Hid (∀ w', Kp [] w8.drew w' → Gr w2 (ls.take (k + 1)) q w') := fun w' k' => (G8.mid ((kp_drew w8).trans k')).left
          have HG8 := hide G8.swap
          have HK21 : Hid ((cndP 21 (ls.take (k + 1))).length ≤ 1000) := hide (Nat.le_trans (cnd_small _ (by have := unhide HTL2; omega)) (by omega))
          clear HA7 hc7 G8
          go_wp2_with fail
          refine region_grow Tryd.mixed [Is (.pointer (some ⟨p, 0, none⟩)), Is (.int .i64 ((k + 1 : Nat) : Int)), Is (.pointer (some ⟨q, 0, none⟩)), Is (.int .i64 ((k + 1 : Nat) : Int)), Is (.bool false), Is (.bool false), Is (.pointer (some ⟨p, 0, none⟩)), SlT (r), Is (.string S), Is (.pointer (some ⟨q, 0, none⟩)), SlT (r), Is (.string S), Is (.bool false), Is (.bool false), Is (.bool false), Is (.pointer (some ⟨p, 0, none⟩)), LsM (cndP 21 (ls.take (k + 1))), Is (.pointer (some ⟨q, 0, none⟩)), LsM (cndP 21 (ls.take (k + 1))), Is (.bool true), Is (.bool false), Is (.bool false)] [[(6, none)], [(67, some 0)], [(7, none)], [(69, some 2)], [(68, some 1), (70, some 3)], [(71, some 4)], [(6, none), (72, some 5)], [(73, some 6), (72, some 5)], [(74, some 7), (72, some 5)], [(7, none), (72, some 5)], [(76, some 9), (72, some 5)], [(77, some 10), (72, some 5)], [(75, some 8), (78, some 11), (72, some 5)], [(72, some 5), (79, some 12)], [(80, some 13)], [(6, none), (81, some 14)], [(82, some 15), (81, some 14)], [(7, none), (81, some 14)], [(84, some 17), (81, some 14)], [(83, some 16), (85, some 18), (81, some 14)], [(86, some 19), (81, some 14)], [(81, some 14), (87, some 20)]] (by kernel_rfl) ?_ ?_ ?_
          · simp only [List.mem_cons, List.not_mem_nil, or_false]
            intro R hR
            rcases hR with rfl | rfl | rfl | rfl | rfl | rfl | rfl | rfl | rfl | rfl | rfl | rfl | rfl | rfl | rfl | rfl | rfl | rfl | rfl | rfl | rfl | rfl <;> first | exact stable_is _ | exact stable_sl _ | exact stable_lsm _
          · refine steps_cons (fun a w hk hn => ?_) ?_
            · have h6 : a.eval (.tmp 6) = .pointer (some ⟨p, 0, none⟩) := hn.1
              clear hn
              refine wants_plain rfl ?_
              exact grown_move (.tmp 6) rfl h6
            refine steps_cons (fun a w hk hn => ?_) ?_
            · have h67 : a.eval (.tmp 67) = .pointer (some ⟨p, 0, none⟩) := hn.1
              clear hn
              refine wants_plain rfl ?_
              refine grown_call (f := 17) rfl Tryd.func17 (by kernel_rfl) (by kernel_rfl) ?_
              simp only [List.map_toArray, List.map_cons, List.map_nil, h67]
              refine (gr_size w2 (ls.take (k + 1)) p w (unhide HGa w hk) (by have := unhide HTL2; omega)).mono ?_
              rw [unhide HTL2]
              rintro e w' ⟨rfl, rfl⟩
              exact ⟨_, rfl, Kp.refl _ _, rfl⟩
            refine steps_cons (fun a w hk hn => ?_) ?_
            · have h7 : a.eval (.tmp 7) = .pointer (some ⟨q, 0, none⟩) := hn.1
              clear hn
              refine wants_plain rfl ?_
              exact grown_move (.tmp 7) rfl h7
            refine steps_cons (fun a w hk hn => ?_) ?_
            · have h69 : a.eval (.tmp 69) = .pointer (some ⟨q, 0, none⟩) := hn.1
              clear hn
              refine wants_plain rfl ?_
              refine grown_call (f := 17) rfl Tryd.func17 (by kernel_rfl) (by kernel_rfl) ?_
              simp only [List.map_toArray, List.map_cons, List.map_nil, h69]
              refine (gr_size w2 (ls.take (k + 1)) q w (unhide HGb w hk) (by have := unhide HTL2; omega)).mono ?_
              rw [unhide HTL2]
              rintro e w' ⟨rfl, rfl⟩
              exact ⟨_, rfl, Kp.refl _ _, rfl⟩
            refine steps_cons (fun a w hk hn => ?_) ?_
            · have h68 : a.eval (.tmp 68) = .int .i64 ((k + 1 : Nat) : Int) := hn.1
              have h70 : a.eval (.tmp 70) = .int .i64 ((k + 1 : Nat) : Int) := hn.2.1
              clear hn
              refine wants_plain rfl ?_
              refine grown_run (v := .bool false) ?_ (Kp.refl _ _) rfl
              obtain ⟨ρ, hρ, hc, hf, hg⟩ := eval_is a
              rw [hρ] at h68 h70 ⊢
              simp [go_sem, h68, h70]
            refine steps_cons (fun a w hk hn => ?_) ?_
            · have h71 : a.eval (.tmp 71) = .bool false := hn.1
              clear hn
              refine wants_plain rfl ?_
              exact grown_move (.tmp 71) rfl h71
            refine steps_cons (fun a w hk hn => ?_) ?_
            · have h6 : a.eval (.tmp 6) = .pointer (some ⟨p, 0, none⟩) := hn.1
              have h72 : a.eval (.tmp 72) = .bool false := hn.2.1
              clear hn
              refine wants_guard (d := 72) rfl rfl h72 ?_
              exact grown_move (.tmp 6) rfl h6
            refine steps_cons (fun a w hk hn => ?_) ?_
            · have h73 : a.eval (.tmp 73) = .pointer (some ⟨p, 0, none⟩) := hn.1
              have h72 : a.eval (.tmp 72) = .bool false := hn.2.1
              clear hn
              refine wants_guard (d := 72) rfl rfl h72 ?_
              refine grown_call (f := 19) rfl Tryd.func19 (by kernel_rfl) (by kernel_rfl) ?_
              simp only [List.map_toArray, List.map_cons, List.map_nil, h73]
              refine (gr_root w2 (ls.take (k + 1)) p r (unhide HR) w (unhide HGa w hk) (by have := unhide HTL2; omega) (unhide HTK2) (unhide HG2)).mono ?_
              rintro e w' ⟨ao, m, c, rfl, R, K⟩
              exact ⟨_, rfl, K, R.sl⟩
            refine steps_cons (fun a w hk hn => ?_) ?_
            · have h74 : Sl w (a.eval (.tmp 74)) (r) := hn.1
              have h72 : a.eval (.tmp 72) = .bool false := hn.2.1
              clear hn
              refine wants_guard (d := 72) rfl rfl h72 ?_
              exact grown_conv (.tmp 74) _ _ 5 _ rfl h74 Tryd.underlying28 Tryd.underlying5 Tryd.underlying9 (congrArg Value.string (unhide HS).symm)
            refine steps_cons (fun a w hk hn => ?_) ?_
            · have h7 : a.eval (.tmp 7) = .pointer (some ⟨q, 0, none⟩) := hn.1
              have h72 : a.eval (.tmp 72) = .bool false := hn.2.1
              clear hn
              refine wants_guard (d := 72) rfl rfl h72 ?_
              exact grown_move (.tmp 7) rfl h7
            refine steps_cons (fun a w hk hn => ?_) ?_
            · have h76 : a.eval (.tmp 76) = .pointer (some ⟨q, 0, none⟩) := hn.1
              have h72 : a.eval (.tmp 72) = .bool false := hn.2.1
              clear hn
              refine wants_guard (d := 72) rfl rfl h72 ?_
              refine grown_call (f := 19) rfl Tryd.func19 (by kernel_rfl) (by kernel_rfl) ?_
              simp only [List.map_toArray, List.map_cons, List.map_nil, h76]
              refine (gr_root w2 (ls.take (k + 1)) q r (unhide HR) w (unhide HGb w hk) (by have := unhide HTL2; omega) (unhide HTK2) (unhide HG2)).mono ?_
              rintro e w' ⟨ao, m, c, rfl, R, K⟩
              exact ⟨_, rfl, K, R.sl⟩
            refine steps_cons (fun a w hk hn => ?_) ?_
            · have h77 : Sl w (a.eval (.tmp 77)) (r) := hn.1
              have h72 : a.eval (.tmp 72) = .bool false := hn.2.1
              clear hn
              refine wants_guard (d := 72) rfl rfl h72 ?_
              exact grown_conv (.tmp 77) _ _ 5 _ rfl h77 Tryd.underlying28 Tryd.underlying5 Tryd.underlying9 (congrArg Value.string (unhide HS).symm)
            refine steps_cons (fun a w hk hn => ?_) ?_
            · have h75 : a.eval (.tmp 75) = .string S := hn.1
              have h78 : a.eval (.tmp 78) = .string S := hn.2.1
              have h72 : a.eval (.tmp 72) = .bool false := hn.2.2.1
              clear hn
              refine wants_guard (d := 72) rfl rfl h72 ?_
              refine grown_run (v := .bool false) ?_ (Kp.refl _ _) rfl
              obtain ⟨ρ, hρ, hc, hf, hg⟩ := eval_is a
              rw [hρ] at h75 h78 ⊢
              simp [go_sem, h75, h78]
            refine steps_cons (fun a w hk hn => ?_) ?_
            · have h72 : a.eval (.tmp 72) = .bool false := hn.1
              have h79 : a.eval (.tmp 79) = .bool false := hn.2.1
              clear hn
              refine wants_plain rfl ?_
              exact grown_pick _ _ _ false rfl h72 h79
            refine steps_cons (fun a w hk hn => ?_) ?_
            · have h80 : a.eval (.tmp 80) = .bool false := hn.1
              clear hn
              refine wants_plain rfl ?_
              exact grown_move (.tmp 80) rfl h80
            refine steps_cons (fun a w hk hn => ?_) ?_
            · have h6 : a.eval (.tmp 6) = .pointer (some ⟨p, 0, none⟩) := hn.1
              have h81 : a.eval (.tmp 81) = .bool false := hn.2.1
              clear hn
              refine wants_guard (d := 81) rfl rfl h81 ?_
              exact grown_move (.tmp 6) rfl h6
            refine steps_cons (fun a w hk hn => ?_) ?_
            · have h82 : a.eval (.tmp 82) = .pointer (some ⟨p, 0, none⟩) := hn.1
              have h81 : a.eval (.tmp 81) = .bool false := hn.2.1
              clear hn
              refine wants_guard (d := 81) rfl rfl h81 ?_
              refine grown_call (f := 18) rfl Tryd.func18 (by kernel_rfl) (by kernel_rfl) ?_
              simp only [List.map_toArray, List.map_cons, List.map_nil, h82]
              refine (gr_nodes w2 (ls.take (k + 1)) p w (unhide HGa w hk) (by have := unhide HTL2; omega) (unhide HTK2)).mono ?_
              rintro e w' ⟨ao, m, c, rfl, A⟩
              exact ⟨_, rfl, A.kp, A.lists (unhide HK21)⟩
            refine steps_cons (fun a w hk hn => ?_) ?_
            · have h7 : a.eval (.tmp 7) = .pointer (some ⟨q, 0, none⟩) := hn.1
              have h81 : a.eval (.tmp 81) = .bool false := hn.2.1
              clear hn
              refine wants_guard (d := 81) rfl rfl h81 ?_
              exact grown_move (.tmp 7) rfl h7
            refine steps_cons (fun a w hk hn => ?_) ?_
            · have h84 : a.eval (.tmp 84) = .pointer (some ⟨q, 0, none⟩) := hn.1
              have h81 : a.eval (.tmp 81) = .bool false := hn.2.1
              clear hn
              refine wants_guard (d := 81) rfl rfl h81 ?_
              refine grown_call (f := 18) rfl Tryd.func18 (by kernel_rfl) (by kernel_rfl) ?_
              simp only [List.map_toArray, List.map_cons, List.map_nil, h84]
              refine (gr_nodes w2 (ls.take (k + 1)) q w (unhide HGb w hk) (by have := unhide HTL2; omega) (unhide HTK2)).mono ?_
              rintro e w' ⟨ao, m, c, rfl, A⟩
              exact ⟨_, rfl, A.kp, A.lists (unhide HK21)⟩
            refine steps_cons (fun a w hk hn => ?_) ?_
            · have h83 : (LsM (cndP 21 (ls.take (k + 1)))) (a.eval (.tmp 83)) w := hn.1
              have h85 : (LsM (cndP 21 (ls.take (k + 1)))) (a.eval (.tmp 85)) w := hn.2.1
              have h81 : a.eval (.tmp 81) = .bool false := hn.2.2.1
              clear hn
              refine wants_guard (d := 81) rfl rfl h81 ?_
              refine grown_call (f := 20) rfl Tryd.func20 (by kernel_rfl) (by kernel_rfl) ?_
              simp only [List.map_toArray, List.map_cons, List.map_nil]
              refine (lists_lsm h83 h85).mono ?_
              rintro e w' ⟨rfl, K⟩
              exact ⟨_, rfl, K, rfl⟩
            refine steps_cons (fun a w hk hn => ?_) ?_
            · have h86 : a.eval (.tmp 86) = .bool true := hn.1
              have h81 : a.eval (.tmp 81) = .bool false := hn.2.1
              clear hn
              refine wants_guard (d := 81) rfl rfl h81 ?_
              refine grown_run (v := .bool false) ?_ (Kp.refl _ _) rfl
              obtain ⟨ρ, hρ, hc, hf, hg⟩ := eval_is a
              rw [hρ] at h86 ⊢
              simp [go_sem, h86]
            refine steps_cons (fun a w hk hn => ?_) ?_
            · have h81 : a.eval (.tmp 81) = .bool false := hn.1
              have h87 : a.eval (.tmp 87) = .bool false := hn.2.1
              clear hn
              refine wants_plain rfl ?_
              exact grown_pick _ _ _ false rfl h81 h87
            exact trivial
          intro W1 hkW1
          rintro _ rfl
          rintro _ rfl
          rintro _ rfl
          rintro _ rfl
          rintro _ rfl
          rintro _ rfl
          rintro _ rfl
          intro v74 h74
          rintro _ rfl
          rintro _ rfl
          intro v77 h77
          rintro _ rfl
          rintro _ rfl
          rintro _ rfl
          rintro _ rfl
          rintro _ rfl
          intro v83 h83
          rintro _ rfl
          intro v85 h85
          rintro _ rfl
          rintro _ rfl
          rintro _ rfl
          refine fin_nil ?_
          simp only [Act.put, List.set_cons_zero, List.set_cons_succ, List.setIfInBounds_toArray]
          have HG9 := hide ((unhide HG8).mid ((kp_drew w8).trans hkW1))
          clear h74 h77 h83 h85 hkW1 HGa HGb HG8
          go_wp2_with fail
          go_roundw
          case rel => exact ⟨k + 1, q, by omega, rfl, by go_num, unhide HG9⟩
          case measure => simp [intOf]; omega
      · have hzi : ¬ (k : Int) < (nz : Int) := by omega
        have L6 := unhide HX2 wr (unhide HGr).kp
        have hc6 := L6.1
        have HA6 := hide (gr2_append w2 (ls.take k) (ls.take k) p q (.slice ax nx cx) x wr (unhide HGr) L6.2.1 L6.2.2 hxl (by have := unhide HTL; omega) (unhide HTK) (unhide HG2))
        rw [← unhide HT] at HA6
        clear L6
        go_wp2_with fail
        refine (unhide HA6).mono ?_
        rintro e w7 ⟨rfl, G7⟩
        have L7 := unhide HX2 w7 G7.kp
        have hc7 := L7.1
        have HA7 := hide (gr2_append w2 (ls.take k) (ls.take (k + 1)) q p (.slice ax nx cx) x w7 G7.swap L7.2.1 L7.2.2 hxl (by have := unhide HTL; omega) (unhide HTK) (unhide HG2))
        rw [← unhide HT] at HA7
        clear L7 G7 HA6 hc6
        go_wp2_with fail
        refine (unhide HA7).mono ?_
        rintro e w8 ⟨rfl, G8⟩
        have HGa : Hid (∀ w', Kp [] w8.drew w' → Gr w2 (ls.take (k + 1)) p w') := fun w' k' => (G8.mid ((kp_drew w8).trans k')).right
        have HGb : Hid (∀ w', Kp [] w8.drew w' → Gr w2 (ls.take (k + 1)) q w') := fun w' k' => (G8.mid ((kp_drew w8).trans k')).left
        have HG8 := hide G8.swap
        have HK21 : Hid ((cndP 21 (ls.take (k + 1))).length ≤ 1000) := hide (Nat.le_trans (cnd_small _ (by have := unhide HTL2; omega)) (by omega))
        clear HA7 hc7 G8
        go_wp2_with fail
        refine region_grow Tryd.mixed [Is (.pointer (some ⟨p, 0, none⟩)), Is (.int .i64 ((k + 1 : Nat) : Int)), Is (.pointer (some ⟨q, 0, none⟩)), Is (.int .i64 ((k + 1 : Nat) : Int)), Is (.bool false), Is (.bool false), Is (.pointer (some ⟨p, 0, none⟩)), SlT (r), Is (.string S), Is (.pointer (some ⟨q, 0, none⟩)), SlT (r), Is (.string S), Is (.bool false), Is (.bool false), Is (.bool false), Is (.pointer (some ⟨p, 0, none⟩)), LsM (cndP 21 (ls.take (k + 1))), Is (.pointer (some ⟨q, 0, none⟩)), LsM (cndP 21 (ls.take (k + 1))), Is (.bool true), Is (.bool false), Is (.bool false)] [[(6, none)], [(67, some 0)], [(7, none)], [(69, some 2)], [(68, some 1), (70, some 3)], [(71, some 4)], [(6, none), (72, some 5)], [(73, some 6), (72, some 5)], [(74, some 7), (72, some 5)], [(7, none), (72, some 5)], [(76, some 9), (72, some 5)], [(77, some 10), (72, some 5)], [(75, some 8), (78, some 11), (72, some 5)], [(72, some 5), (79, some 12)], [(80, some 13)], [(6, none), (81, some 14)], [(82, some 15), (81, some 14)], [(7, none), (81, some 14)], [(84, some 17), (81, some 14)], [(83, some 16), (85, some 18), (81, some 14)], [(86, some 19), (81, some 14)], [(81, some 14), (87, some 20)]] (by kernel_rfl) ?_ ?_ ?_
        · simp only [List.mem_cons, List.not_mem_nil, or_false]
          intro R hR
          rcases hR with rfl | rfl | rfl | rfl | rfl | rfl | rfl | rfl | rfl | rfl | rfl | rfl | rfl | rfl | rfl | rfl | rfl | rfl | rfl | rfl | rfl | rfl <;> first | exact stable_is _ | exact stable_sl _ | exact stable_lsm _
        · refine steps_cons (fun a w hk hn => ?_) ?_
          · have h6 : a.eval (.tmp 6) = .pointer (some ⟨p, 0, none⟩) := hn.1
            clear hn
            refine wants_plain rfl ?_
            exact grown_move (.tmp 6) rfl h6
          refine steps_cons (fun a w hk hn => ?_) ?_
          · have h67 : a.eval (.tmp 67) = .pointer (some ⟨p, 0, none⟩) := hn.1
            clear hn
            refine wants_plain rfl ?_
            refine grown_call (f := 17) rfl Tryd.func17 (by kernel_rfl) (by kernel_rfl) ?_
            simp only [List.map_toArray, List.map_cons, List.map_nil, h67]
            refine (gr_size w2 (ls.take (k + 1)) p w (unhide HGa w hk) (by have := unhide HTL2; omega)).mono ?_
            rw [unhide HTL2]
            rintro e w' ⟨rfl, rfl⟩
            exact ⟨_, rfl, Kp.refl _ _, rfl⟩
          refine steps_cons (fun a w hk hn => ?_) ?_
          · have h7 : a.eval (.tmp 7) = .pointer (some ⟨q, 0, none⟩) := hn.1
            clear hn
            refine wants_plain rfl ?_
            exact grown_move (.tmp 7) rfl h7
          refine steps_cons (fun a w hk hn => ?_) ?_
          · have h69 : a.eval (.tmp 69) = .pointer (some ⟨q, 0, none⟩) := hn.1
            clear hn
            refine wants_plain rfl ?_
            refine grown_call (f := 17) rfl Tryd.func17 (by kernel_rfl) (by kernel_rfl) ?_
            simp only [List.map_toArray, List.map_cons, List.map_nil, h69]
            refine (gr_size w2 (ls.take (k + 1)) q w (unhide HGb w hk) (by have := unhide HTL2; omega)).mono ?_
            rw [unhide HTL2]
            rintro e w' ⟨rfl, rfl⟩
            exact ⟨_, rfl, Kp.refl _ _, rfl⟩
          refine steps_cons (fun a w hk hn => ?_) ?_
          · have h68 : a.eval (.tmp 68) = .int .i64 ((k + 1 : Nat) : Int) := hn.1
            have h70 : a.eval (.tmp 70) = .int .i64 ((k + 1 : Nat) : Int) := hn.2.1
            clear hn
            refine wants_plain rfl ?_
            refine grown_run (v := .bool false) ?_ (Kp.refl _ _) rfl
            obtain ⟨ρ, hρ, hc, hf, hg⟩ := eval_is a
            rw [hρ] at h68 h70 ⊢
            simp [go_sem, h68, h70]
          refine steps_cons (fun a w hk hn => ?_) ?_
          · have h71 : a.eval (.tmp 71) = .bool false := hn.1
            clear hn
            refine wants_plain rfl ?_
            exact grown_move (.tmp 71) rfl h71
          refine steps_cons (fun a w hk hn => ?_) ?_
          · have h6 : a.eval (.tmp 6) = .pointer (some ⟨p, 0, none⟩) := hn.1
            have h72 : a.eval (.tmp 72) = .bool false := hn.2.1
            clear hn
            refine wants_guard (d := 72) rfl rfl h72 ?_
            exact grown_move (.tmp 6) rfl h6
          refine steps_cons (fun a w hk hn => ?_) ?_
          · have h73 : a.eval (.tmp 73) = .pointer (some ⟨p, 0, none⟩) := hn.1
            have h72 : a.eval (.tmp 72) = .bool false := hn.2.1
            clear hn
            refine wants_guard (d := 72) rfl rfl h72 ?_
            refine grown_call (f := 19) rfl Tryd.func19 (by kernel_rfl) (by kernel_rfl) ?_
            simp only [List.map_toArray, List.map_cons, List.map_nil, h73]
            refine (gr_root w2 (ls.take (k + 1)) p r (unhide HR) w (unhide HGa w hk) (by have := unhide HTL2; omega) (unhide HTK2) (unhide HG2)).mono ?_
            rintro e w' ⟨ao, m, c, rfl, R, K⟩
            exact ⟨_, rfl, K, R.sl⟩
          refine steps_cons (fun a w hk hn => ?_) ?_
          · have h74 : Sl w (a.eval (.tmp 74)) (r) := hn.1
            have h72 : a.eval (.tmp 72) = .bool false := hn.2.1
            clear hn
            refine wants_guard (d := 72) rfl rfl h72 ?_
            exact grown_conv (.tmp 74) _ _ 5 _ rfl h74 Tryd.underlying28 Tryd.underlying5 Tryd.underlying9 (congrArg Value.string (unhide HS).symm)
          refine steps_cons (fun a w hk hn => ?_) ?_
          · have h7 : a.eval (.tmp 7) = .pointer (some ⟨q, 0, none⟩) := hn.1
            have h72 : a.eval (.tmp 72) = .bool false := hn.2.1
            clear hn
            refine wants_guard (d := 72) rfl rfl h72 ?_
            exact grown_move (.tmp 7) rfl h7
          refine steps_cons (fun a w hk hn => ?_) ?_
          · have h76 : a.eval (.tmp 76) = .pointer (some ⟨q, 0, none⟩) := hn.1
            have h72 : a.eval (.tmp 72) = .bool false := hn.2.1
            clear hn
            refine wants_guard (d := 72) rfl rfl h72 ?_
            refine grown_call (f := 19) rfl Tryd.func19 (by kernel_rfl) (by kernel_rfl) ?_
            simp only [List.map_toArray, List.map_cons, List.map_nil, h76]
            refine (gr_root w2 (ls.take (k + 1)) q r (unhide HR) w (unhide HGb w hk) (by have := unhide HTL2; omega) (unhide HTK2) (unhide HG2)).mono ?_
            rintro e w' ⟨ao, m, c, rfl, R, K⟩
            exact ⟨_, rfl, K, R.sl⟩
          refine steps_cons (fun a w hk hn => ?_) ?_
          · have h77 : Sl w (a.eval (.tmp 77)) (r) := hn.1
            have h72 : a.eval (.tmp 72) = .bool false := hn.2.1
            clear hn
            refine wants_guard (d := 72) rfl rfl h72 ?_
            exact grown_conv (.tmp 77) _ _ 5 _ rfl h77 Tryd.underlying28 Tryd.underlying5 Tryd.underlying9 (congrArg Value.string (unhide HS).symm)
          refine steps_cons (fun a w hk hn => ?_) ?_
          · have h75 : a.eval (.tmp 75) = .string S := hn.1
            have h78 : a.eval (.tmp 78) = .string S := hn.2.1
            have h72 : a.eval (.tmp 72) = .bool false := hn.2.2.1
            clear hn
            refine wants_guard (d := 72) rfl rfl h72 ?_
            refine grown_run (v := .bool false) ?_ (Kp.refl _ _) rfl
            obtain ⟨ρ, hρ, hc, hf, hg⟩ := eval_is a
            rw [hρ] at h75 h78 ⊢
            simp [go_sem, h75, h78]
          refine steps_cons (fun a w hk hn => ?_) ?_
          · have h72 : a.eval (.tmp 72) = .bool false := hn.1
            have h79 : a.eval (.tmp 79) = .bool false := hn.2.1
            clear hn
            refine wants_plain rfl ?_
            exact grown_pick _ _ _ false rfl h72 h79
          refine steps_cons (fun a w hk hn => ?_) ?_
          · have h80 : a.eval (.tmp 80) = .bool false := hn.1
            clear hn
            refine wants_plain rfl ?_
            exact grown_move (.tmp 80) rfl h80
          refine steps_cons (fun a w hk hn => ?_) ?_
          · have h6 : a.eval (.tmp 6) = .pointer (some ⟨p, 0, none⟩) := hn.1
            have h81 : a.eval (.tmp 81) = .bool false := hn.2.1
            clear hn
            refine wants_guard (d := 81) rfl rfl h81 ?_
            exact grown_move (.tmp 6) rfl h6
          refine steps_cons (fun a w hk hn => ?_) ?_
          · have h82 : a.eval (.tmp 82) = .pointer (some ⟨p, 0, none⟩) := hn.1
            have h81 : a.eval (.tmp 81) = .bool false := hn.2.1
            clear hn
            refine wants_guard (d := 81) rfl rfl h81 ?_
            refine grown_call (f := 18) rfl Tryd.func18 (by kernel_rfl) (by kernel_rfl) ?_
            simp only [List.map_toArray, List.map_cons, List.map_nil, h82]
            refine (gr_nodes w2 (ls.take (k + 1)) p w (unhide HGa w hk) (by have := unhide HTL2; omega) (unhide HTK2)).mono ?_
            rintro e w' ⟨ao, m, c, rfl, A⟩
            exact ⟨_, rfl, A.kp, A.lists (unhide HK21)⟩
          refine steps_cons (fun a w hk hn => ?_) ?_
          · have h7 : a.eval (.tmp 7) = .pointer (some ⟨q, 0, none⟩) := hn.1
            have h81 : a.eval (.tmp 81) = .bool false := hn.2.1
            clear hn
            refine wants_guard (d := 81) rfl rfl h81 ?_
            exact grown_move (.tmp 7) rfl h7
          refine steps_cons (fun a w hk hn => ?_) ?_
          · have h84 : a.eval (.tmp 84) = .pointer (some ⟨q, 0, none⟩) := hn.1
            have h81 : a.eval (.tmp 81) = .bool false := hn.2.1
            clear hn
            refine wants_guard (d := 81) rfl rfl h81 ?_
            refine grown_call (f := 18) rfl Tryd.func18 (by kernel_rfl) (by kernel_rfl) ?_
            simp only [List.map_toArray, List.map_cons, List.map_nil, h84]
            refine (gr_nodes w2 (ls.take (k + 1)) q w (unhide HGb w hk) (by have := unhide HTL2; omega) (unhide HTK2)).mono ?_
            rintro e w' ⟨ao, m, c, rfl, A⟩
            exact ⟨_, rfl, A.kp, A.lists (unhide HK21)⟩
          refine steps_cons (fun a w hk hn => ?_) ?_
          · have h83 : (LsM (cndP 21 (ls.take (k + 1)))) (a.eval (.tmp 83)) w := hn.1
            have h85 : (LsM (cndP 21 (ls.take (k + 1)))) (a.eval (.tmp 85)) w := hn.2.1
            have h81 : a.eval (.tmp 81) = .bool false := hn.2.2.1
            clear hn
            refine wants_guard (d := 81) rfl rfl h81 ?_
            refine grown_call (f := 20) rfl Tryd.func20 (by kernel_rfl) (by kernel_rfl) ?_
            simp only [List.map_toArray, List.map_cons, List.map_nil]
            refine (lists_lsm h83 h85).mono ?_
            rintro e w' ⟨rfl, K⟩
            exact ⟨_, rfl, K, rfl⟩
          refine steps_cons (fun a w hk hn => ?_) ?_
          · have h86 : a.eval (.tmp 86) = .bool true := hn.1
            have h81 : a.eval (.tmp 81) = .bool false := hn.2.1
            clear hn
            refine wants_guard (d := 81) rfl rfl h81 ?_
            refine grown_run (v := .bool false) ?_ (Kp.refl _ _) rfl
            obtain ⟨ρ, hρ, hc, hf, hg⟩ := eval_is a
            rw [hρ] at h86 ⊢
            simp [go_sem, h86]
          refine steps_cons (fun a w hk hn => ?_) ?_
          · have h81 : a.eval (.tmp 81) = .bool false := hn.1
            have h87 : a.eval (.tmp 87) = .bool false := hn.2.1
            clear hn
            refine wants_plain rfl ?_
            exact grown_pick _ _ _ false rfl h81 h87
          exact trivial
        intro W1 hkW1
        rintro _ rfl
        rintro _ rfl
        rintro _ rfl
        rintro _ rfl
        rintro _ rfl
        rintro _ rfl
        rintro _ rfl
        intro v74 h74
        rintro _ rfl
        rintro _ rfl
        intro v77 h77
        rintro _ rfl
        rintro _ rfl
        rintro _ rfl
        rintro _ rfl
        rintro _ rfl
        intro v83 h83
        rintro _ rfl
        intro v85 h85
        rintro _ rfl
        rintro _ rfl
        rintro _ rfl
        refine fin_nil ?_
        simp only [Act.put, List.set_cons_zero, List.set_cons_succ, List.setIfInBounds_toArray]
        have HG9 := hide ((unhide HG8).mid ((kp_drew w8).trans hkW1))
        clear h74 h77 h83 h85 hkW1 HGa HGb HG8
        go_wp2_with fail
        go_roundw
        case rel => exact ⟨k + 1, q, by omega, rfl, by go_num, unhide HG9⟩
        case measure => simp [intOf]; omega
    · obtain rfl : N = k := by omega
      have HC := hide (known_any wr ((unhide HG2).kept hGr.kp (by simp)))
      have HKW := hide ((unhide HK2).trans hGr.kp)
      clear hGr hlt hk
      go_wp2_with fail
      refine (unhide HC).mono ?_
      rintro e w6 ⟨rfl, K6⟩
      have HK6 := hide ((unhide HKW).trans K6)
      clear HC K6
      go_wp2_with fail
      go_ret
      exact ⟨rfl, (unhide HK6).below (Nat.le_refl _) (by simp)⟩
set_option maxRecDepth 100000 in
theorem lifted (os : Os) (started : os.Started) (H : Type) (enc : TypeId × Value → H) :
    ReturnsInHanded {} Tryd.checked os 5 .any (fun w args => (Rows.compactFromSpec.pre enc Tryd.prog Tryd.f5 [] false w args ∧ laidMetH Tryd.prog laid1 w) ∧ sizedMet enc Tryd.prog Tryd.f5 (OpenSpec.ofChange Rows.compactFromSpec) false w args) (Rows.compactFromSpec.post enc Tryd.prog Tryd.f5 false true false false) := by
  refine returnsInHanded_of_change_and (C := Tryd.checked) (X := fun w _ => laidMetH Tryd.prog laid1 w) (fun _ _ _ hh h => h.of_heap hh) own started (by kernel_rfl) Tryd.func5
    (ChangeSpec.witness_shaped (enc := enc) (C := Tryd.checked) (os := os) (X := fun w _ => laidMetH Tryd.prog laid1 w) false (World.doorLaid Tryd.prog 400 os) #[.slice none 0 0, .slice none 0 0] 8 rfl (World.shaped_of_RefB (by kernel_rfl) (by kernel_rfl)) (by kernel_rfl) (by kernel_rfl) (by kernel_rfl) (door_met os _)) ?_
  intro W base args ds gs before hval0 hW hcnd hsz0 hL _
  have hG := gl_of_laid hL
  have hval : ∀ (j : Nat) t v, Tryd.f5.params[j]? = some t → args[j]? = some v → Value.okWide Tryd.prog W .any base t v := hval0
  have hW' := hW
  obtain ⟨p, q, hA0, hV, rfl, hfz, hnd⟩ := hW
  have hA : DataW.TrodAll enc Tryd.prog W 0 (fun _ => true) true Tryd.f5.params.toList args.toList ds p := hA0
  rw [Tryd.params5] at hA hval
  obtain ⟨v0, vs0, d0, ds0, p0, q0, hargs, rfl, rfl, h0, r0⟩ := trodAll_cons hA
  obtain ⟨v1, vs1, d1, ds1, p1, q1, rfl, rfl, rfl, h1, r1⟩ := trodAll_cons r0
  obtain ⟨rfl, rfl, rfl⟩ := trodAll_nil r1
  obtain rfl : args = #[v0, v1] := by cases args; simp_all
  obtain ⟨rfl, rfl⟩ := trodVars_none hV
  obtain ⟨a0, len0, cap0, rfl⟩ := okWide_slice Tryd.underlying24 (hval 0 24 v0 rfl rfl)
  have k0 := h0
  have lt0 : ∀ x ∈ p0, x.block < W.heap.size := by obtain ⟨m, hm⟩ := k0; exact DataW.trod_lt m _ _ _ hm
  obtain ⟨l0, s0⟩ : ∃ l, Lists W (.slice a0 len0 cap0) l := by
    obtain ⟨fuel, hf⟩ := h0
    exact lists_of_trod (by simpa [Value.cells] using hf)
  obtain ⟨a1, len1, cap1, rfl⟩ := okWide_slice Tryd.underlying36 (hval 1 36 v1 rfl rfl)
  have k1 := h1
  have lt1 : ∀ x ∈ p1, x.block < W.heap.size := by obtain ⟨m, hm⟩ := k1; exact DataW.trod_lt m _ _ _ hm
  obtain ⟨l1, s1⟩ : ∃ l, Ints W (.slice a1 len1 cap1) l := by
    obtain ⟨fuel, hf⟩ := h1
    exact ints_of_trod (by simpa [Value.cells] using hf)
  clear hA0 hval0
  refine (walk (.slice a0 len0 cap0) l0 (.slice a1 len1 cap1) l1 W hG s0 s1).mono fun e W' ⟨he, bel⟩ => ?_
  subst he
  exact ⟨_, rfl, _, _, _, [], _, [], hW', trodAll_mk1 (shut_bool Tryd.underlying4 _), (trodAll_cons_mk (Below.trod laidOut (by kernel_rfl) (of_decide_eq_true (by kernel_rfl)) k0 bel lt0) (trodAll_cons_mk (Below.trod laidOut (by kernel_rfl) (of_decide_eq_true (by kernel_rfl)) k1 bel lt1) trodAll_mk0)), rfl, bel.frame _, fun h => by cases h⟩

theorem over : Rows.compactFromRow.holds Tryd.pinned (OpenSpec.ofChange Rows.compactFromSpec) :=
  OpenClaim.holds_of_wide 5 Tryd.f5 rfl rfl rfl rfl rfl rfl rfl ⟨rfl, rfl, rfl, rfl, rfl⟩ rfl rfl rfl rfl rfl (by kernel_rfl) Tryd.func5 (by kernel_rfl)
    (of_decide_eq_true (by kernel_rfl)) (by unfold Func.isWrapper; first | (rw [if_pos (by decide +kernel)]; kernel_rfl) | (rw [if_neg (by decide +kernel)]; exact ⟨rfl, rfl⟩))
    (fun os started H enc _ => lifted os started H enc)
end Go.Proofs.YtiabccgabbdedaaDoor.compactFrom

namespace Go.Proofs.YtiabccgabbdedaaDoor
/-- The given statement: the tied card. -/
theorem CompactFrom_holds : Rows.CompactFromCardSaid :=
  Claim7.holds_tied_plain_at .later [] [.data, .data, .data] true Rows.compactFromCard.stood.harness false
    compactFrom.over (fun _ h => by cases h) (by kernel_rfl) (fun _ h => by cases h) compactFrom_row_tie rfl ⟨rfl, rfl⟩ (by kernel_rfl) rfl
    (fun f fn hf hfn => by
      obtain rfl : f = 5 := Option.some.inj ((show Tryd.prog.funcNamed "broadsheet/broadsheetlaw7.CompactFrom" = some 5 by kernel_rfl).symm.trans hf) |>.symm
      obtain rfl : fn = Tryd.f5 := (Option.some.inj (Tryd.func5.symm.trans hfn)).symm
      exact ⟨by kernel_rfl, fun j t ht => by
        rw [Tryd.params5] at ht
        have hm : t ∈ ([24, 36] : List TypeId) := by simpa using Array.mem_of_getElem? ht
        have hall : (([24, 36] : List TypeId).all fun u => !Tryd.prog.wantsStandIn u) = true := by kernel_rfl
        exact (show Tryd.prog.wantsStandIn t = false by simpa using List.all_eq_true.1 hall t hm)⟩)
    (by kernel_rfl)
#print axioms CompactFrom_holds
end Go.Proofs.YtiabccgabbdedaaDoor
