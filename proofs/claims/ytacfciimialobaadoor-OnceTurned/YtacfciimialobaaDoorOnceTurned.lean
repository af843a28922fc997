/-
  The statement OnceTurnedCardSaid: for all keys, messages, places and bytes the law function OnceTurned returns true and leaves its arguments as they were; the table hash.roundWords starts as the program's text lays it (tied). No other condition.
-/
import Derived.Test.YtacfciimialobaaDoorOTurn
import Derived.Test.YtacfciimialobaaDoorORefSign
import Derived.Test.YtacfciimialobaaDoorORefRoot
import Derived.Test.YtacfciimialobaaDoorTie
import Derived.Test.YtacfciimialobaaDoorCards
import Derived.SevenTiedAt
namespace Go.Proofs.YtacfciimialobaaDoor.onceTurned
open Go.ChangeShapes Go.WideShapes Go.ChangeAt Go.RowKit
open Go.Proofs.YtacfciimialobaaDoor
set_option linter.unusedVariables false

theorem areP_set {ls : List (List Int)} (h : areP ls = true) (i : Nat) (x : List Int) (hx : x.length = 32) : areP (ls.set i x) = true := by
  refine areP_good (by rw [List.length_set]; exact areP_len h) (fun j hj => ?_)
  have := List.mem_or_eq_of_mem_set (List.getElem_mem hj)
  rcases this with h1 | h1
  · exact areP_at h _ h1
  · rw [h1]; exact hx

set_option maxRecDepth 100000 in
set_option maxHeartbeats 4000000 in
theorem walk (key : Int) (v1 : Value) (ms0 : List Int) (at_ turn : Int) (w : World) (hG : Gl w) (hkey : -9223372036854775808 ≤ key ∧ key ≤ 9223372036854775807) (hm0 : Sl w v1 ms0) (hM0 : Bs ms0) (hat : -9223372036854775808 ≤ at_ ∧ at_ ≤ 9223372036854775807) (hturn : 0 ≤ turn ∧ turn ≤ 255) :
    Calls Tryd.prog 8 #[.int .i64 key, v1, .int .i64 at_, .int .u8 turn] w fun e w' => e = .returned (.bool true) ∧ Below w.heap.size w w' := by
  have HG := hide hG
  obtain ⟨ms, hms⟩ : ∃ ms, ms = ms0.take 50 := ⟨_, rfl⟩
  have hml : ms.length ≤ 50 := by rw [hms]; simp; omega
  have HBm : Hid (Bs ms) := by rw [hms]; exact hM0.take _
  have kc := fun w' (h : Sl w' v1 ms0) => cut_any v1 ms0 50 w' h
  rw [← hms] at kc
  have KC := hide kc
  have HC0 := hide hm0
  have HW := hide (fun w' => within_any at_ 0 63 w' (by omega) (by omega) (by omega) hat)
  have HSE := hide (seed_any key w hkey)
  obtain ⟨hturn0, hturn1⟩ := hturn
  obtain ⟨am, cm, hv1, hj⟩ := hm0
  obtain ⟨m0, hm0⟩ : ∃ m0, m0 = ms0.length := ⟨_, rfl⟩
  rw [← hm0] at hv1
  subst hv1
  clear hG kc hM0 hms hkey hat hj hm0
  go_enter Tryd.func8, Tryd.ntmps8
  go_wp2_with fail
  refine (unhide HSE).mono ?_
  rintro ee w1 ⟨a1, m1, c1, sd, rfl, R1, hsl, hsb, K1⟩
  have HR1 := hide R1
  have HK1 := hide K1
  have HSB := hide hsb
  have HC1 := hide ((unhide HC0).kept K1 (by simp))
  clear R1 K1 hsb HSE
  go_wp2_with fail
  refine (unhide KC w1 (unhide HC1)).mono ?_
  rintro ee w2 ⟨am, cm, rfl, hT2, hw⟩
  subst w2
  have C1 := hide (hT2 _ (unhide HC1))
  clear hT2 KC HC0 HC1
  obtain ⟨m, hm⟩ : ∃ m, m = ms.length := ⟨_, rfl⟩
  rw [← hm] at C1 ⊢
  clear hm
  obtain ⟨d, hd⟩ : ∃ d, d = digP ms := ⟨_, rfl⟩
  have HD := hide hd
  clear hd
  go_wp2_with fail
  refine (refsign_any _ sd key _ ms d (unhide HD) w1 (unhide HR1).sl (unhide HSB) (by omega) (unhide C1) (unhide HBm) (by omega)).mono ?_
  rintro ee w3 ⟨a3, m3, c3, rfl, A3⟩
  obtain rfl : m3 = 64 := by rw [A3.cap, sgnP, ptsP_len]
  obtain ⟨l, hP, hl2, K3⟩ := A3
  have hl64 : l.length = 64 := by rw [← List.length_map (f := (·.2)), hl2, sgnP, ptsP_len]
  obtain ⟨g, rfl, hgb, hgs, hj0, hcs, hfs⟩ := hP.rowS.spot (by omega)
  have HP := hide hP
  have HL2 := hide hl2
  have HL64 := hide hl64
  have HK3 := hide ((unhide HK1).trans K3)
  have HS3 := hide ((unhide HR1).sl.kept K3 (by simp))
  have HC3 := hide ((unhide C1).kept K3 (by simp))
  have HCS := hide hcs
  have HFS := hide hfs
  have hK13 := hide K3
  clear hP hl2 hl64 K3 hj0 hcs hfs
  go_wp2_with fail
  refine (unhide HW _).mono ?_
  rintro ee w4 ⟨i0, rfl, hi0, hi1, hw⟩
  subst w4
  obtain ⟨i, rfl⟩ := Int.eq_ofNat_of_zero_le hi0
  have hil : i < l.length := by have := unhide HL64; omega
  have hi64 : (i : Int) < 64 := by omega
  clear HW
  obtain ⟨hRi, hBi, hAi⟩ := (unhide HP).2 l[i] (List.getElem_mem hil)
  have hci : w3.cell? ⟨g, i, none⟩ = some l[i].1 := by
    have := (unhide HP).1.cells (g := g) rfl i l[i].1 (by simp [List.getElem?_eq_getElem hil])
    simpa [Addr.add_lit] using this
  have hfi := unhide HFS i
  have hxl : l[i].2 = ptP sd key (digC d) i := by
    have h1 : (l.map (·.2))[i]? = (sgnP sd key d)[i]? := by rw [unhide HL2]
    rw [List.getElem?_map, List.getElem?_eq_getElem hil, sgnP, ptsP, List.getElem?_map, List.getElem?_range (by omega)] at h1
    exact Option.some.inj h1
  have hx32 : l[i].2.length = 32 := by rw [hxl]; exact ptP_len _ _ _ _
  obtain ⟨x, hx⟩ : ∃ x, x = l[i] := ⟨_, rfl⟩
  rw [← hx] at hRi hBi hAi hci hx32
  have HX := hide hx
  obtain ⟨ax, cx, hxv⟩ := hRi.shape
  rw [hx32] at hxv
  rw [hxv] at hci
  have HRi := hide hRi
  have HBi := hide hBi
  have HX32 := hide hx32
  have HXV := hide hxv
  clear hRi hBi hAi hx hxl hx32 hxv HCS HFS
  have HKe := hide ((Kp.refl [] w3).alloc (.cells #[] 5))
  have R0 : Hid (Row (w3.alloc (.cells #[] 5)) w3.heap.size (.slice (some ⟨w3.heap.size, 0, none⟩) 0 0) []) := row_of_block (bs := []) (Nat.le_refl _) (heap_alloc_new w3 _) rfl (by simp [maxLen])
  have SX : Hid (Sl (w3.alloc (.cells #[] 5)) (.slice ax 32 cx) x.2) := by have := (unhide HRi).sl.kept (unhide HKe) (by simp); rw [unhide HXV] at this; exact this
  go_wp2_with (at_builtin; refine wpList_append_row rfl (.tmp 31) (.tmp 35) rfl w3.heap.size (.slice (some ⟨w3.heap.size, 0, none⟩) 0 0) [] rfl (unhide R0) _ x.2 rfl (unhide SX) (by have := unhide HX32; simp; omega) (by simp) ?_; intro a5 m5 c5 w5 R5 s5; refine Hid.out ?_)
  rw [List.nil_append] at R5
  obtain rfl : m5 = 32 := R5.len.trans (unhide HX32)
  obtain ⟨g5, rfl, hg5, hg5s, hd5, hf5, hst⟩ := R5.spot (by omega)
  have K5 : Kp [] w3 w5 := (unhide HKe).then s5.1 (fun j hj => .inr (by simp [Value.ownBlock] at hj; omega))
  have hc5 := K5.cell hci (by simp)
  have hx7l : 7 < x.2.length := by have := unhide HX32; omega
  have hx7 := hd5 7 hx7l
  have hf7 := hf5 7
  have hfg : w5.frozen? ⟨g, i, none⟩ = false := ((unhide HP).kept K5).rowS.frz i
  have hne : g5 ≠ g := by omega
  have hne2 : g ≠ g5 := by omega
  obtain ⟨y, hy⟩ : ∃ y, y = x.2[7] := ⟨_, rfl⟩
  rw [← hy] at hx7
  have hyb := unhide HBi x.2[7] (List.getElem_mem hx7l)
  rw [← hy] at hyb
  have HY := hide hy
  have HR5 := hide R5
  have HK5 := hide K5
  clear R5 s5 K5 hd5 hf5 hst hci hfi hy
  obtain ⟨hy0, hy1⟩ := hyb
  refine hide ?_
  go_wp2_with fail
  obtain ⟨z, hz⟩ : ∃ z, z = bits .xor .u8 y turn := ⟨_, rfl⟩
  have hzb := xor_bd y turn
  rw [← hz] at hzb ⊢
  obtain ⟨w6, hw6⟩ : ∃ w6, w6 = (w5.setCell ⟨g, i, none⟩ (.slice (some ⟨g5, 0, none⟩) 32 c5)).setCell ⟨g5, 7, none⟩ (.int .u8 z) := ⟨_, rfl⟩
  have R5' : Row w5 w3.heap.size (.slice (some ⟨g5, 0, none⟩) x.2.length c5) x.2 := by rw [unhide HX32]; exact unhide HR5
  have RS6 := turned (i := i) (k := 7) (unhide HP) (unhide HK5) R5' (unhide HBi) (by omega) z hzb.1 hzb.2
  rw [unhide HX32, ← hw6] at RS6
  have K16 : Kp [] w1 w6 := by
    rw [hw6]
    exact (((unhide hK13).trans (unhide HK5)).setCell (p := ⟨g, i, none⟩) (.inr hgb) _).setCell (p := ⟨g5, 7, none⟩) (.inr (Nat.le_trans (unhide hK13).size hg5)) _
  rw [← hw6]
  obtain ⟨l6, hl6⟩ : ∃ l6, l6 = l.set i (.slice (some ⟨g5, 0, none⟩) 32 c5, x.2.set 7 z) := ⟨_, rfl⟩
  rw [← hl6] at RS6
  have hl6m : l6.map (·.2) = (sgnP sd key d).set i (x.2.set 7 z) := by rw [hl6, List.map_set, unhide HL2]
  have hare : areP (l6.map (·.2)) = true := by rw [hl6m]; exact areP_set (areP_sgn _ _ _) i _ (by rw [List.length_set]; exact unhide HX32)
  obtain ⟨r, hr⟩ : ∃ r, r = rootP d (l6.map (·.2)) := ⟨_, rfl⟩
  have hzero : turn = 0 → r = pubP sd key := fun h0 => by
    have hzy : z = y := by rw [hz, h0]; exact xor_zero y hy0 hy1
    have e1 : x.2.set 7 z = x.2 := by rw [hzy, unhide HY]; exact List.set_getElem_self _
    have e2 : (sgnP sd key d).set i x.2 = sgnP sd key d := by
      have h1 : (sgnP sd key d)[i]? = some x.2 := by rw [← unhide HL2, List.getElem?_map, List.getElem?_eq_getElem hil, unhide HX]; rfl
      obtain ⟨hi, h2⟩ := List.getElem?_eq_some_iff.1 h1
      rw [← h2]; exact List.set_getElem_self _
    rw [hr, hl6m, e1, e2, rootP_sgn]
  have HZ := hide hzero
  have HA := hide hare
  have HR := hide hr
  have HL6 := hide (RS6.lists (by rw [hl6, List.length_set]; have := unhide HL64; omega))
  have HK6 := hide ((unhide HK1).trans K16)
  have HS6 := hide ((unhide HR1).sl.kept K16 (by simp))
  have HC6 := hide ((unhide C1).kept K16 (by simp))
  clear hz hzb hw6 R5' RS6 K16 hl6 hl6m hare hr hzero HR5 HK5 HY HX HRi HBi HX32 HXV HKe R0 SX hK13 HS3 HC3 HK3 HP HL2 HL64 hc5 hx7 hf7 hfg hy0 hy1
  refine (root_any _ ms _ l6 d true r (unhide HD) (unhide HA).symm (unhide HR) w6 (unhide HC6) (unhide HBm) (by omega) (unhide HL6) ((unhide HG).kept (unhide HK6) (by simp))).mono ?_
  rintro ee w7 ⟨v, rfl, hRt, K7⟩
  obtain ⟨a7, m7, c7, rfl, R7⟩ : ∃ ao m c, v = .slice ao m c ∧ Row w7 w6.heap.size v r := hRt
  have HR7 := hide R7
  have HK7 := hide K7
  clear R7 K7
  go_wp2_with fail
  refine (refroot_any _ ms _ l6 d true r (unhide HD) (unhide HA).symm (unhide HR) w7 ((unhide HC6).kept (unhide HK7) (by simp)) (unhide HBm) (by omega) ((unhide HL6).kept (unhide HK7))).mono ?_
  rintro ee w8 ⟨v, rfl, hRt, K8⟩
  obtain ⟨a8, m8, c8, rfl, R8⟩ : ∃ ao m c, v = .slice ao m c ∧ Row w8 w7.heap.size v r := hRt
  have HS7 := hide ((unhide HR7).sl.kept K8 (by simp))
  have HS8 := hide R8.sl
  have HSS := hide ((unhide HS6).kept ((unhide HK7).trans K8) (by simp))
  have HK8 := hide ((unhide HK6).trans ((unhide HK7).trans K8))
  clear R8 K8 HR7 HK7 HL6 HC6 HS6 HK6
  obtain ⟨SR, hSR⟩ : ∃ S, S = strOfNums r := ⟨_, rfl⟩
  have HSR := hide hSR
  clear hSR
  have SL7 : ∀ w', Kp [] w8.drew w' → Sl w' (.slice a7 m7 c7) r := fun w' h => (unhide HS7).kept ((kp_drew w8).trans h) (by simp)
  have SL8 : ∀ w', Kp [] w8.drew w' → Sl w' (.slice a8 m8 c8) r := fun w' h => (unhide HS8).kept ((kp_drew w8).trans h) (by simp)
  have SLS : ∀ w', Kp [] w8.drew w' → Sl w' (.slice a1 m1 c1) sd := fun w' h => (unhide HSS).kept ((kp_drew w8).trans h) (by simp)
  have GL : ∀ w', Kp [] w8.drew w' → Gl w' := fun w' h => (unhide HG).kept ((unhide HK8).trans ((kp_drew w8).trans h)) (by simp)
  go_wp2_with fail
  by_cases ht : turn = 0
  · have HRP := hide (unhide HZ ht)
    subst ht
    refine region_grow Tryd.mixed [Is (.bool true), Is (.bool true), Is (.bool true), Is (.bool true), Is (.bool true), Is (.slice a7 m7 c7), Is (.string SR), Is (.slice a8 m8 c8), Is (.string SR), Is (.bool true), Is (.bool true), Is (.bool true), Is (.int .u8 0), Is (.bool false), Is (.bool false), Is (.slice a7 m7 c7), Is (.string SR), Is (.slice a1 m1 c1), Is (.int .i64 key), SlT (r), Is (.string SR), Is (.bool true), Is (.bool true), Is (.bool true), Is (.bool true), Is (.bool true), Is (.bool true), Is (.bool true)] [[(13, none)], [(59, some 0)], [(15, none), (60, some 1)], [(60, some 1), (61, some 2)], [(62, some 3)], [(12, none), (63, some 4)], [(64, some 5), (63, some 4)], [(14, none), (63, some 4)], [(66, some 7), (63, some 4)], [(65, some 6), (67, some 8), (63, some 4)], [(63, some 4), (68, some 9)], [(69, some 10)], [(3, none), (70, some 11)], [(71, some 12), (70, some 11)], [(72, some 13), (70, some 11)], [(12, none), (73, some 14)], [(74, some 15), (73, some 14)], [(9, none), (73, some 14)], [(0, none), (73, some 14)], [(76, some 17), (77, some 18), (73, some 14)], [(78, some 19), (73, some 14)], [(75, some 16), (79, some 20), (73, some 14)], [(73, some 14), (80, some 21), (70, some 11)], [(70, some 11), (81, some 22)], [(82, some 23)], [(83, some 24)], [(83, some 24), (84, some 25)], [(85, some 26)]] (by kernel_rfl) ?_ ?_ ?_
    · simp only [List.mem_cons, List.not_mem_nil, or_false]
      intro R hR
      rcases hR with rfl | rfl | rfl | rfl | rfl | rfl | rfl | rfl | rfl | rfl | rfl | rfl | rfl | rfl | rfl | rfl | rfl | rfl | rfl | rfl | rfl | rfl | rfl | rfl | rfl | rfl | rfl | rfl <;> first | exact stable_is _ | exact stable_sl _
    · refine steps_cons (fun a w hk hn => ?_) ?_
      · have h13 : a.eval (.tmp 13) = .bool true := hn.1
        clear hn
        refine wants_plain rfl ?_
        exact grown_move (.tmp 13) rfl h13
      refine steps_cons (fun a w hk hn => ?_) ?_
      · have h59 : a.eval (.tmp 59) = .bool true := hn.1
        clear hn
        refine wants_plain rfl ?_
        exact grown_move (.tmp 59) rfl h59
      refine steps_cons (fun a w hk hn => ?_) ?_
      · have h15 : a.eval (.tmp 15) = .bool true := hn.1
        have h60 : a.eval (.tmp 60) = .bool true := hn.2.1
        clear hn
        refine wants_guard (d := 60) rfl rfl h60 ?_
        exact grown_move (.tmp 15) rfl h15
      refine steps_cons (fun a w hk hn => ?_) ?_
      · have h60 : a.eval (.tmp 60) = .bool true := hn.1
        have h61 : a.eval (.tmp 61) = .bool true := hn.2.1
        clear hn
        refine wants_plain rfl ?_
        exact grown_pick _ _ _ true rfl h60 h61
      refine steps_cons (fun a w hk hn => ?_) ?_
      · have h62 : a.eval (.tmp 62) = .bool true := hn.1
        clear hn
        refine wants_plain rfl ?_
        exact grown_move (.tmp 62) rfl h62
      refine steps_cons (fun a w hk hn => ?_) ?_
      · have h12 : a.eval (.tmp 12) = .slice a7 m7 c7 := hn.1
        have h63 : a.eval (.tmp 63) = .bool true := hn.2.1
        clear hn
        refine wants_guard (d := 63) rfl rfl h63 ?_
        exact grown_move (.tmp 12) rfl h12
      refine steps_cons (fun a w hk hn => ?_) ?_
      · have h64 : a.eval (.tmp 64) = .slice a7 m7 c7 := hn.1
        have h63 : a.eval (.tmp 63) = .bool true := hn.2.1
        clear hn
        refine wants_guard (d := 63) rfl rfl h63 ?_
        exact grown_conv (.tmp 64) _ _ 5 (r) rfl (by rw [h64]; exact SL7 w hk) Tryd.underlying22 Tryd.underlying5 Tryd.underlying9 (congrArg Value.string (unhide HSR).symm)
      refine steps_cons (fun a w hk hn => ?_) ?_
      · have h14 : a.eval (.tmp 14) = .slice a8 m8 c8 := hn.1
        have h63 : a.eval (.tmp 63) = .bool true := hn.2.1
        clear hn
        refine wants_guard (d := 63) rfl rfl h63 ?_
        exact grown_move (.tmp 14) rfl h14
      refine steps_cons (fun a w hk hn => ?_) ?_
      · have h66 : a.eval (.tmp 66) = .slice a8 m8 c8 := hn.1
        have h63 : a.eval (.tmp 63) = .bool true := hn.2.1
        clear hn
        refine wants_guard (d := 63) rfl rfl h63 ?_
        exact grown_conv (.tmp 66) _ _ 5 (r) rfl (by rw [h66]; exact SL8 w hk) Tryd.underlying22 Tryd.underlying5 Tryd.underlying9 (congrArg Value.string (unhide HSR).symm)
      refine steps_cons (fun a w hk hn => ?_) ?_
      · have h65 : a.eval (.tmp 65) = .string SR := hn.1
        have h67 : a.eval (.tmp 67) = .string SR := hn.2.1
        have h63 : a.eval (.tmp 63) = .bool true := hn.2.2.1
        clear hn
        refine wants_guard (d := 63) rfl rfl h63 ?_
        refine grown_run (v := .bool true) ?_ (Kp.refl _ _) rfl
        obtain ⟨ρ, hρ, hc, hf, hg⟩ := eval_is a
        rw [hρ] at h65 h67 ⊢
        simp [go_sem, h65, h67]
      refine steps_cons (fun a w hk hn => ?_) ?_
      · have h63 : a.eval (.tmp 63) = .bool true := hn.1
        have h68 : a.eval (.tmp 68) = .bool true := hn.2.1
        clear hn
        refine wants_plain rfl ?_
        exact grown_pick _ _ _ true rfl h63 h68
      refine steps_cons (fun a w hk hn => ?_) ?_
      · have h69 : a.eval (.tmp 69) = .bool true := hn.1
        clear hn
        refine wants_plain rfl ?_
        exact grown_move (.tmp 69) rfl h69
      refine steps_cons (fun a w hk hn => ?_) ?_
      · have h3 : a.eval (.tmp 3) = .int .u8 0 := hn.1
        have h70 : a.eval (.tmp 70) = .bool true := hn.2.1
        clear hn
        refine wants_guard (d := 70) rfl rfl h70 ?_
        exact grown_move (.tmp 3) rfl h3
      refine steps_cons (fun a w hk hn => ?_) ?_
      · have h71 : a.eval (.tmp 71) = .int .u8 0 := hn.1
        have h70 : a.eval (.tmp 70) = .bool true := hn.2.1
        clear hn
        refine wants_guard (d := 70) rfl rfl h70 ?_
        refine grown_run (v := .bool false) ?_ (Kp.refl _ _) rfl
        obtain ⟨ρ, hρ, hc, hf, hg⟩ := eval_is a
        rw [hρ] at h71 ⊢
        simp [go_sem, hc, h71]
      refine steps_cons (fun a w hk hn => ?_) ?_
      · have h72 : a.eval (.tmp 72) = .bool false := hn.1
        have h70 : a.eval (.tmp 70) = .bool true := hn.2.1
        clear hn
        refine wants_guard (d := 70) rfl rfl h70 ?_
        exact grown_move (.tmp 72) rfl h72
      refine steps_cons (fun a w hk hn => ?_) ?_
      · have h12 : a.eval (.tmp 12) = .slice a7 m7 c7 := hn.1
        have h73 : a.eval (.tmp 73) = .bool false := hn.2.1
        clear hn
        refine wants_guard (d := 73) rfl rfl h73 ?_
        exact grown_move (.tmp 12) rfl h12
      refine steps_cons (fun a w hk hn => ?_) ?_
      · have h74 : a.eval (.tmp 74) = .slice a7 m7 c7 := hn.1
        have h73 : a.eval (.tmp 73) = .bool false := hn.2.1
        clear hn
        refine wants_guard (d := 73) rfl rfl h73 ?_
        exact grown_conv (.tmp 74) _ _ 5 (r) rfl (by rw [h74]; exact SL7 w hk) Tryd.underlying22 Tryd.underlying5 Tryd.underlying9 (congrArg Value.string (unhide HSR).symm)
      refine steps_cons (fun a w hk hn => ?_) ?_
      · have h9 : a.eval (.tmp 9) = .slice a1 m1 c1 := hn.1
        have h73 : a.eval (.tmp 73) = .bool false := hn.2.1
        clear hn
        refine wants_guard (d := 73) rfl rfl h73 ?_
        exact grown_move (.tmp 9) rfl h9
      refine steps_cons (fun a w hk hn => ?_) ?_
      · have h0 : a.eval (.tmp 0) = .int .i64 key := hn.1
        have h73 : a.eval (.tmp 73) = .bool false := hn.2.1
        clear hn
        refine wants_guard (d := 73) rfl rfl h73 ?_
        exact grown_move (.tmp 0) rfl h0
      refine steps_cons (fun a w hk hn => ?_) ?_
      · have h76 : a.eval (.tmp 76) = .slice a1 m1 c1 := hn.1
        have h77 : a.eval (.tmp 77) = .int .i64 key := hn.2.1
        have h73 : a.eval (.tmp 73) = .bool false := hn.2.2.1
        clear hn
        refine wants_guard (d := 73) rfl rfl h73 ?_
        refine grown_call (f := 20) rfl Tryd.func20 (by kernel_rfl) (by kernel_rfl) ?_
        simp only [List.map_toArray, List.map_cons, List.map_nil, h76, h77]
        refine (public_any _ sd key r (unhide HRP) w (SLS w hk) (unhide HSB) (by omega) (GL w hk)).mono ?_
        rintro e w' ⟨ao, m, c, rfl, R, K⟩
        exact ⟨_, rfl, K, R.sl⟩
      refine steps_cons (fun a w hk hn => ?_) ?_
      · have h78 : Sl w (a.eval (.tmp 78)) (r) := hn.1
        have h73 : a.eval (.tmp 73) = .bool false := hn.2.1
        clear hn
        refine wants_guard (d := 73) rfl rfl h73 ?_
        exact grown_conv (.tmp 78) _ _ 5 _ rfl h78 Tryd.underlying22 Tryd.underlying5 Tryd.underlying9 (congrArg Value.string (unhide HSR).symm)
      refine steps_cons (fun a w hk hn => ?_) ?_
      · have h75 : a.eval (.tmp 75) = .string SR := hn.1
        have h79 : a.eval (.tmp 79) = .string SR := hn.2.1
        have h73 : a.eval (.tmp 73) = .bool false := hn.2.2.1
        clear hn
        refine wants_guard (d := 73) rfl rfl h73 ?_
        refine grown_run (v := .bool true) ?_ (Kp.refl _ _) rfl
        obtain ⟨ρ, hρ, hc, hf, hg⟩ := eval_is a
        rw [hρ] at h75 h79 ⊢
        simp [go_sem, h75, h79]
      refine steps_cons (fun a w hk hn => ?_) ?_
      · have h73 : a.eval (.tmp 73) = .bool false := hn.1
        have h80 : a.eval (.tmp 80) = .bool true := hn.2.1
        have h70 : a.eval (.tmp 70) = .bool true := hn.2.2.1
        clear hn
        refine wants_guard (d := 70) rfl rfl h70 ?_
        exact grown_pick _ _ _ false rfl h73 h80
      refine steps_cons (fun a w hk hn => ?_) ?_
      · have h70 : a.eval (.tmp 70) = .bool true := hn.1
        have h81 : a.eval (.tmp 81) = .bool true := hn.2.1
        clear hn
        refine wants_plain rfl ?_
        exact grown_pick _ _ _ true rfl h70 h81
      refine steps_cons (fun a w hk hn => ?_) ?_
      · have h82 : a.eval (.tmp 82) = .bool true := hn.1
        clear hn
        refine wants_plain rfl ?_
        exact grown_move (.tmp 82) rfl h82
      refine steps_cons (fun a w hk hn => ?_) ?_
      · have h83 : a.eval (.tmp 83) = .bool true := hn.1
        clear hn
        refine wants_guard (d := 83) rfl rfl h83 ?_
        refine grown_call (f := 22) rfl Tryd.func22 (by kernel_rfl) (by kernel_rfl) ?_
        simp only [List.map_toArray, List.map_nil]
        refine (known_any w (GL w hk)).mono ?_
        rintro e w' ⟨rfl, K⟩
        exact ⟨_, rfl, K, rfl⟩
      refine steps_cons (fun a w hk hn => ?_) ?_
      · have h83 : a.eval (.tmp 83) = .bool true := hn.1
        have h84 : a.eval (.tmp 84) = .bool true := hn.2.1
        clear hn
        refine wants_plain rfl ?_
        exact grown_pick _ _ _ true rfl h83 h84
      refine steps_cons (fun a w hk hn => ?_) ?_
      · have h85 : a.eval (.tmp 85) = .bool true := hn.1
        clear hn
        refine wants_plain rfl ?_
        exact grown_assign (.tmp 85) rfl h85
      exact trivial
    intro W1 hkW1
    rintro _ rfl
    rintro _ rfl
    rintro _ rfl
    rintro _ rfl
    rintro _ rfl
    rintro _ rfl
    rintro _ rfl
    rintro _ rfl
    rintro _ rfl
    rintro _ rfl
    rintro _ rfl
    rintro _ rfl
    rintro _ rfl
    rintro _ rfl
    rintro _ rfl
    rintro _ rfl
    rintro _ rfl
    rintro _ rfl
    rintro _ rfl
    intro v78 h78
    rintro _ rfl
    rintro _ rfl
    rintro _ rfl
    rintro _ rfl
    rintro _ rfl
    rintro _ rfl
    rintro _ rfl
    rintro _ rfl
    refine fin_nil ?_
    simp only [Act.put, List.set_cons_zero, List.set_cons_succ, List.setIfInBounds_toArray]
    go_wp2_with fail
    go_ret
    exact ⟨rfl, ((unhide HK8).trans ((kp_drew w8).trans hkW1)).below (Nat.le_refl _) (by simp)⟩
  · clear HZ
    refine region_grow Tryd.mixed [Is (.bool true), Is (.bool true), Is (.bool true), Is (.bool true), Is (.bool true), Is (.slice a7 m7 c7), Is (.string SR), Is (.slice a8 m8 c8), Is (.string SR), Is (.bool true), Is (.bool true), Is (.bool true), Is (.int .u8 turn), Is (.bool true), Is (.bool true), Is (undef), Is (undef), Is (undef), Is (undef), Is (undef), Is (undef), Is (undef), Is (.bool true), Is (.bool true), Is (.bool true), Is (.bool true), Is (.bool true), Is (.bool true)] [[(13, none)], [(59, some 0)], [(15, none), (60, some 1)], [(60, some 1), (61, some 2)], [(62, some 3)], [(12, none), (63, some 4)], [(64, some 5), (63, some 4)], [(14, none), (63, some 4)], [(66, some 7), (63, some 4)], [(65, some 6), (67, some 8), (63, some 4)], [(63, some 4), (68, some 9)], [(69, some 10)], [(3, none), (70, some 11)], [(71, some 12), (70, some 11)], [(72, some 13), (70, some 11)], [(12, none), (73, some 14)], [(74, some 15), (73, some 14)], [(9, none), (73, some 14)], [(0, none), (73, some 14)], [(76, some 17), (77, some 18), (73, some 14)], [(78, some 19), (73, some 14)], [(75, some 16), (79, some 20), (73, some 14)], [(73, some 14), (80, some 21), (70, some 11)], [(70, some 11), (81, some 22)], [(82, some 23)], [(83, some 24)], [(83, some 24), (84, some 25)], [(85, some 26)]] (by kernel_rfl) ?_ ?_ ?_
    · simp only [List.mem_cons, List.not_mem_nil, or_false]
      intro R hR
      rcases hR with rfl | rfl | rfl | rfl | rfl | rfl | rfl | rfl | rfl | rfl | rfl | rfl | rfl | rfl | rfl | rfl | rfl | rfl | rfl | rfl | rfl | rfl | rfl | rfl | rfl | rfl | rfl | rfl <;> first | exact stable_is _
    · refine steps_cons (fun a w hk hn => ?_) ?_
      · have h13 : a.eval (.tmp 13) = .bool true := hn.1
        clear hn
        refine wants_plain rfl ?_
        exact grown_move (.tmp 13) rfl h13
      refine steps_cons (fun a w hk hn => ?_) ?_
      · have h59 : a.eval (.tmp 59) = .bool true := hn.1
        clear hn
        refine wants_plain rfl ?_
        exact grown_move (.tmp 59) rfl h59
      refine steps_cons (fun a w hk hn => ?_) ?_
      · have h15 : a.eval (.tmp 15) = .bool true := hn.1
        have h60 : a.eval (.tmp 60) = .bool true := hn.2.1
        clear hn
        refine wants_guard (d := 60) rfl rfl h60 ?_
        exact grown_move (.tmp 15) rfl h15
      refine steps_cons (fun a w hk hn => ?_) ?_
      · have h60 : a.eval (.tmp 60) = .bool true := hn.1
        have h61 : a.eval (.tmp 61) = .bool true := hn.2.1
        clear hn
        refine wants_plain rfl ?_
        exact grown_pick _ _ _ true rfl h60 h61
      refine steps_cons (fun a w hk hn => ?_) ?_
      · have h62 : a.eval (.tmp 62) = .bool true := hn.1
        clear hn
        refine wants_plain rfl ?_
        exact grown_move (.tmp 62) rfl h62
      refine steps_cons (fun a w hk hn => ?_) ?_
      · have h12 : a.eval (.tmp 12) = .slice a7 m7 c7 := hn.1
        have h63 : a.eval (.tmp 63) = .bool true := hn.2.1
        clear hn
        refine wants_guard (d := 63) rfl rfl h63 ?_
        exact grown_move (.tmp 12) rfl h12
      refine steps_cons (fun a w hk hn => ?_) ?_
      · have h64 : a.eval (.tmp 64) = .slice a7 m7 c7 := hn.1
        have h63 : a.eval (.tmp 63) = .bool true := hn.2.1
        clear hn
        refine wants_guard (d := 63) rfl rfl h63 ?_
        exact grown_conv (.tmp 64) _ _ 5 (r) rfl (by rw [h64]; exact SL7 w hk) Tryd.underlying22 Tryd.underlying5 Tryd.underlying9 (congrArg Value.string (unhide HSR).symm)
      refine steps_cons (fun a w hk hn => ?_) ?_
      · have h14 : a.eval (.tmp 14) = .slice a8 m8 c8 := hn.1
        have h63 : a.eval (.tmp 63) = .bool true := hn.2.1
        clear hn
        refine wants_guard (d := 63) rfl rfl h63 ?_
        exact grown_move (.tmp 14) rfl h14
      refine steps_cons (fun a w hk hn => ?_) ?_
      · have h66 : a.eval (.tmp 66) = .slice a8 m8 c8 := hn.1
        have h63 : a.eval (.tmp 63) = .bool true := hn.2.1
        clear hn
        refine wants_guard (d := 63) rfl rfl h63 ?_
        exact grown_conv (.tmp 66) _ _ 5 (r) rfl (by rw [h66]; exact SL8 w hk) Tryd.underlying22 Tryd.underlying5 Tryd.underlying9 (congrArg Value.string (unhide HSR).symm)
      refine steps_cons (fun a w hk hn => ?_) ?_
      · have h65 : a.eval (.tmp 65) = .string SR := hn.1
        have h67 : a.eval (.tmp 67) = .string SR := hn.2.1
        have h63 : a.eval (.tmp 63) = .bool true := hn.2.2.1
        clear hn
        refine wants_guard (d := 63) rfl rfl h63 ?_
        refine grown_run (v := .bool true) ?_ (Kp.refl _ _) rfl
        obtain ⟨ρ, hρ, hc, hf, hg⟩ := eval_is a
        rw [hρ] at h65 h67 ⊢
        simp [go_sem, h65, h67]
      refine steps_cons (fun a w hk hn => ?_) ?_
      · have h63 : a.eval (.tmp 63) = .bool true := hn.1
        have h68 : a.eval (.tmp 68) = .bool true := hn.2.1
        clear hn
        refine wants_plain rfl ?_
        exact grown_pick _ _ _ true rfl h63 h68
      refine steps_cons (fun a w hk hn => ?_) ?_
      · have h69 : a.eval (.tmp 69) = .bool true := hn.1
        clear hn
        refine wants_plain rfl ?_
        exact grown_move (.tmp 69) rfl h69
      refine steps_cons (fun a w hk hn => ?_) ?_
      · have h3 : a.eval (.tmp 3) = .int .u8 turn := hn.1
        have h70 : a.eval (.tmp 70) = .bool true := hn.2.1
        clear hn
        refine wants_guard (d := 70) rfl rfl h70 ?_
        exact grown_move (.tmp 3) rfl h3
      refine steps_cons (fun a w hk hn => ?_) ?_
      · have h71 : a.eval (.tmp 71) = .int .u8 turn := hn.1
        have h70 : a.eval (.tmp 70) = .bool true := hn.2.1
        clear hn
        refine wants_guard (d := 70) rfl rfl h70 ?_
        refine grown_run (v := .bool true) ?_ (Kp.refl _ _) rfl
        obtain ⟨ρ, hρ, hc, hf, hg⟩ := eval_is a
        rw [hρ] at h71 ⊢
        simp [go_sem, hc, h71, ht]
      refine steps_cons (fun a w hk hn => ?_) ?_
      · have h72 : a.eval (.tmp 72) = .bool true := hn.1
        have h70 : a.eval (.tmp 70) = .bool true := hn.2.1
        clear hn
        refine wants_guard (d := 70) rfl rfl h70 ?_
        exact grown_move (.tmp 72) rfl h72
      refine steps_cons (fun a w hk hn => ?_) ?_
      · have h12 : a.eval (.tmp 12) = .slice a7 m7 c7 := hn.1
        have h73 : a.eval (.tmp 73) = .bool true := hn.2.1
        clear hn
        exact wants_not (d := 73) rfl rfl h73 rfl
      refine steps_cons (fun a w hk hn => ?_) ?_
      · have h74 : a.eval (.tmp 74) = undef := hn.1
        have h73 : a.eval (.tmp 73) = .bool true := hn.2.1
        clear hn
        exact wants_not (d := 73) rfl rfl h73 rfl
      refine steps_cons (fun a w hk hn => ?_) ?_
      · have h9 : a.eval (.tmp 9) = .slice a1 m1 c1 := hn.1
        have h73 : a.eval (.tmp 73) = .bool true := hn.2.1
        clear hn
        exact wants_not (d := 73) rfl rfl h73 rfl
      refine steps_cons (fun a w hk hn => ?_) ?_
      · have h0 : a.eval (.tmp 0) = .int .i64 key := hn.1
        have h73 : a.eval (.tmp 73) = .bool true := hn.2.1
        clear hn
        exact wants_not (d := 73) rfl rfl h73 rfl
      refine steps_cons (fun a w hk hn => ?_) ?_
      · have h76 : a.eval (.tmp 76) = undef := hn.1
        have h77 : a.eval (.tmp 77) = undef := hn.2.1
        have h73 : a.eval (.tmp 73) = .bool true := hn.2.2.1
        clear hn
        exact wants_not (d := 73) rfl rfl h73 rfl
      refine steps_cons (fun a w hk hn => ?_) ?_
      · have h78 : a.eval (.tmp 78) = undef := hn.1
        have h73 : a.eval (.tmp 73) = .bool true := hn.2.1
        clear hn
        exact wants_not (d := 73) rfl rfl h73 rfl
      refine steps_cons (fun a w hk hn => ?_) ?_
      · have h75 : a.eval (.tmp 75) = undef := hn.1
        have h79 : a.eval (.tmp 79) = undef := hn.2.1
        have h73 : a.eval (.tmp 73) = .bool true := hn.2.2.1
        clear hn
        exact wants_not (d := 73) rfl rfl h73 rfl
      refine steps_cons (fun a w hk hn => ?_) ?_
      · have h73 : a.eval (.tmp 73) = .bool true := hn.1
        have h80 : a.eval (.tmp 80) = undef := hn.2.1
        have h70 : a.eval (.tmp 70) = .bool true := hn.2.2.1
        clear hn
        refine wants_guard (d := 70) rfl rfl h70 ?_
        exact grown_pick _ _ _ true rfl h73 rfl
      refine steps_cons (fun a w hk hn => ?_) ?_
      · have h70 : a.eval (.tmp 70) = .bool true := hn.1
        have h81 : a.eval (.tmp 81) = .bool true := hn.2.1
        clear hn
        refine wants_plain rfl ?_
        exact grown_pick _ _ _ true rfl h70 h81
      refine steps_cons (fun a w hk hn => ?_) ?_
      · have h82 : a.eval (.tmp 82) = .bool true := hn.1
        clear hn
        refine wants_plain rfl ?_
        exact grown_move (.tmp 82) rfl h82
      refine steps_cons (fun a w hk hn => ?_) ?_
      · have h83 : a.eval (.tmp 83) = .bool true := hn.1
        clear hn
        refine wants_guard (d := 83) rfl rfl h83 ?_
        refine grown_call (f := 22) rfl Tryd.func22 (by kernel_rfl) (by kernel_rfl) ?_
        simp only [List.map_toArray, List.map_nil]
        refine (known_any w (GL w hk)).mono ?_
        rintro e w' ⟨rfl, K⟩
        exact ⟨_, rfl, K, rfl⟩
      refine steps_cons (fun a w hk hn => ?_) ?_
      · have h83 : a.eval (.tmp 83) = .bool true := hn.1
        have h84 : a.eval (.tmp 84) = .bool true := hn.2.1
        clear hn
        refine wants_plain rfl ?_
        exact grown_pick _ _ _ true rfl h83 h84
      refine steps_cons (fun a w hk hn => ?_) ?_
      · have h85 : a.eval (.tmp 85) = .bool true := hn.1
        clear hn
        refine wants_plain rfl ?_
        exact grown_assign (.tmp 85) rfl h85
      exact trivial
    intro W1 hkW1
    rintro _ rfl
    rintro _ rfl
    rintro _ rfl
    rintro _ rfl
    rintro _ rfl
    rintro _ rfl
    rintro _ rfl
    rintro _ rfl
    rintro _ rfl
    rintro _ rfl
    rintro _ rfl
    rintro _ rfl
    rintro _ rfl
    rintro _ rfl
    rintro _ rfl
    rintro _ rfl
    rintro _ rfl
    rintro _ rfl
    rintro _ rfl
    rintro _ rfl
    rintro _ rfl
    rintro _ rfl
    rintro _ rfl
    rintro _ rfl
    rintro _ rfl
    rintro _ rfl
    rintro _ rfl
    rintro _ rfl
    refine fin_nil ?_
    simp only [Act.put, List.set_cons_zero, List.set_cons_succ, List.setIfInBounds_toArray]
    go_wp2_with fail
    go_ret
    exact ⟨rfl, ((unhide HK8).trans ((kp_drew w8).trans hkW1)).below (Nat.le_refl _) (by simp)⟩
set_option maxRecDepth 100000 in
theorem lifted (os : Os) (started : os.Started) (H : Type) (enc : TypeId × Value → H) :
    ReturnsInHanded {} Tryd.checked os 8 .any (fun w args => (Rows.onceTurnedSpec.pre enc Tryd.prog Tryd.f8 [] false w args ∧ laidMetH Tryd.prog laid1 w) ∧ sizedMet enc Tryd.prog Tryd.f8 (OpenSpec.ofChange Rows.onceTurnedSpec) false w args) (Rows.onceTurnedSpec.post enc Tryd.prog Tryd.f8 false true false false) := by
  refine returnsInHanded_of_change_and (C := Tryd.checked) (X := fun w _ => laidMetH Tryd.prog laid1 w) (fun _ _ _ hh h => h.of_heap hh) own started (by kernel_rfl) Tryd.func8
    (ChangeSpec.witness_shaped (enc := enc) (C := Tryd.checked) (os := os) (X := fun w _ => laidMetH Tryd.prog laid1 w) false (World.doorLaid Tryd.prog 400 os) #[.int .i64 0, .slice none 0 0, .int .i64 0, .int .u8 0] 8 rfl (World.shaped_of_RefB (by kernel_rfl) (by kernel_rfl)) (by kernel_rfl) (by kernel_rfl) (by kernel_rfl) (door_met os _)) ?_
  intro W base args ds gs before hval0 hW hcnd hsz0 hL _
  have hG := gl_of_laid hL
  have hval : ∀ (j : Nat) t v, Tryd.f8.params[j]? = some t → args[j]? = some v → Value.okWide Tryd.prog W .any base t v := hval0
  have hW' := hW
  obtain ⟨p, q, hA0, hV, rfl, hfz, hnd⟩ := hW
  have hA : DataW.TrodAll enc Tryd.prog W 0 (fun _ => true) true Tryd.f8.params.toList args.toList ds p := hA0
  rw [Tryd.params8] at hA hval
  obtain ⟨v0, vs0, d0, ds0, p0, q0, hargs, rfl, rfl, h0, r0⟩ := trodAll_cons hA
  obtain ⟨v1, vs1, d1, ds1, p1, q1, rfl, rfl, rfl, h1, r1⟩ := trodAll_cons r0
  obtain ⟨v2, vs2, d2, ds2, p2, q2, rfl, rfl, rfl, h2, r2⟩ := trodAll_cons r1
  obtain ⟨v3, vs3, d3, ds3, p3, q3, rfl, rfl, rfl, h3, r3⟩ := trodAll_cons r2
  obtain ⟨rfl, rfl, rfl⟩ := trodAll_nil r3
  obtain rfl : args = #[v0, v1, v2, v3] := by cases args; simp_all
  obtain ⟨rfl, rfl⟩ := trodVars_none hV
  obtain ⟨a0, rfl, rfl, rfl, w0⟩ := open_int Tryd.underlying3 (hval 0 3 v0 rfl rfl) h0
  obtain ⟨a1, len1, cap1, rfl⟩ := okWide_slice Tryd.underlying22 (hval 1 22 v1 rfl rfl)
  have k1 := h1
  have lt1 : ∀ x ∈ p1, x.block < W.heap.size := by obtain ⟨m, hm⟩ := k1; exact DataW.trod_lt m _ _ _ hm
  obtain ⟨l1, s1, b1⟩ : ∃ bs, Sl W (.slice a1 len1 cap1) bs ∧ Bs bs := by
    obtain ⟨fuel, hf⟩ := h1
    exact bytes_of_trod (by simpa [Value.cells] using hf)
  obtain ⟨a2, rfl, rfl, rfl, w2⟩ := open_int Tryd.underlying3 (hval 2 3 v2 rfl rfl) h2
  obtain ⟨a3, rfl, rfl, rfl, w3⟩ := open_int Tryd.underlying5 (hval 3 5 v3 rfl rfl) h3
  clear hA0 hval0
  refine (walk a0 (.slice a1 len1 cap1) l1 a2 a3 W hG (bounds_i64 w0) s1 b1 (bounds_i64 w2) (bounds_u8 w3)).mono fun e W' ⟨he, bel⟩ => ?_
  subst he
  exact ⟨_, rfl, _, _, _, [], _, [], hW', trodAll_mk1 (shut_bool Tryd.underlying4 _), (trodAll_cons_mk (shut_int Tryd.underlying3 w0) (trodAll_cons_mk (Below.trod laidOut (by kernel_rfl) (of_decide_eq_true (by kernel_rfl)) k1 bel lt1) (trodAll_cons_mk (shut_int Tryd.underlying3 w2) (trodAll_cons_mk (shut_int Tryd.underlying5 w3) trodAll_mk0)))), rfl, bel.frame _, fun h => by cases h⟩

theorem over : Rows.onceTurnedRow.holds Tryd.pinned (OpenSpec.ofChange Rows.onceTurnedSpec) :=
  OpenClaim.holds_of_wide 8 Tryd.f8 rfl rfl rfl rfl rfl rfl rfl ⟨rfl, rfl, rfl, rfl, rfl⟩ rfl rfl rfl rfl rfl (by kernel_rfl) Tryd.func8 (by kernel_rfl)
    (of_decide_eq_true (by kernel_rfl)) (by unfold Func.isWrapper; first | (rw [if_pos (by decide +kernel)]; kernel_rfl) | (rw [if_neg (by decide +kernel)]; exact ⟨rfl, rfl⟩))
    (fun os started H enc _ => lifted os started H enc)
end Go.Proofs.YtacfciimialobaaDoor.onceTurned

namespace Go.Proofs.YtacfciimialobaaDoor
/-- The given statement: the tied card. -/
theorem OnceTurned_holds : Rows.OnceTurnedCardSaid :=
  Claim7.holds_tied_plain_at .later [] [.data] true Rows.onceTurnedCard.stood.harness false
    onceTurned.over (fun _ h => by cases h) (by kernel_rfl) (fun _ h => by cases h) onceTurned_row_tie rfl ⟨rfl, rfl⟩ (by kernel_rfl) rfl
    (fun f fn hf hfn => by
      obtain rfl : f = 8 := Option.some.inj ((show Tryd.prog.funcNamed "broadsheet/broadsheetlaw4.OnceTurned" = some 8 by kernel_rfl).symm.trans hf) |>.symm
      obtain rfl : fn = Tryd.f8 := (Option.some.inj (Tryd.func8.symm.trans hfn)).symm
      exact ⟨by kernel_rfl, fun j t ht => by
        rw [Tryd.params8] at ht
        have hm : t ∈ ([3, 22, 3, 5] : List TypeId) := by simpa using Array.mem_of_getElem? ht
        have hall : (([3, 22, 3, 5] : List TypeId).all fun u => !Tryd.prog.wantsStandIn u) = true := by kernel_rfl
        exact (show Tryd.prog.wantsStandIn t = false by simpa using List.all_eq_true.1 hall t hm)⟩)
    (by kernel_rfl)
#print axioms OnceTurned_holds
end Go.Proofs.YtacfciimialobaaDoor
