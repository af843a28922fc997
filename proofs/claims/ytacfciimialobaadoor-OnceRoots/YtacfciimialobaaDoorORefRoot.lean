/-
  The contract of the reference's Root.
-/
import Derived.Test.YtacfciimialobaaDoorORoot
import Derived.Test.YtacfciimialobaaDoorORefSec
namespace Go.Proofs.YtacfciimialobaaDoor
open Go.RowKit

theorem rts_take (d : Int) (ls : List (List Int)) (k : Nat) (h : k < ls.length) : ((rtsP d ls).take (k + 1)).flatten = ((rtsP d ls).take k).flatten ++ rtP d k ls[k] := by
  rw [List.take_succ_eq_append_getElem (by rw [rtsP_len]; exact h), List.flatten_append]
  simp [rtsP]
theorem rts_take_len (d : Int) (ls : List (List Int)) (k : Nat) (hl : ls.length = 64) (hg : ∀ i (h : i < ls.length), i < k → ls[i].length = 32) (hk : k ≤ 64) : ((rtsP d ls).take k).flatten.length ≤ 32 * k := by
  induction k with
  | zero => simp
  | succ k ih =>
    rw [rts_take d ls k (by omega), List.length_append]
    have h1 := ih (fun i h h' => hg i h (by omega)) (by omega)
    have h2 : (rtP d k (ls[k]'(by omega))).length = 32 := by
      unfold rtP
      split
      · exact sha_len _
      · exact hg k (by omega) (by omega)
    omega
theorem rtP_bs {d : Int} {i : Nat} {x : List Int} (h : Bs x) : Bs (rtP d i x) := by
  unfold rtP; split
  · exact sha_bs _
  · exact h

set_option maxRecDepth 100000 in
set_option maxHeartbeats 2000000 in
theorem refroot_any (vm : Value) (ms : List Int) (vl : Value) (l : List (Value × List Int)) (d : Int) (b : Bool) (r : List Int) (hd : d = digP ms) (hb : b = areP (l.map (·.2))) (hr : r = rootP d (l.map (·.2))) (w : World) (hM : Sl w vm ms) (hMB : Bs ms) (hml : ms.length ≤ 1000) (hL : Lists w vl l) :
    Calls Tryd.prog 28 #[vm, vl] w fun e w' => ∃ v, e = .returned (.tuple #[v, .bool b]) ∧ Rooted b r w.heap.size v w' ∧ Kp [] w w' := by
  have h0 : 0 ≤ d := by rw [hd]; exact (digP_bd ms).1
  have HD := hide (refdigest_any vm ms d hd w hM hMB (by omega))
  have hBl := hL.bs
  obtain ⟨al, cl, hvl, hll, hcell⟩ := hL
  subst hvl
  obtain ⟨am, cm, hvm, hj⟩ := hM
  clear hj
  obtain ⟨nm, hnm⟩ : ∃ n, n = ms.length := ⟨_, rfl⟩
  rw [← hnm] at hvm
  subst hvm
  clear hMB hd hnm
  obtain ⟨ls, hls⟩ : ∃ ls, ls = l.map (·.2) := ⟨_, rfl⟩
  rw [← hls] at hb hr
  have HR := hide hr
  have HBb := hide hb
  have HBl : Hid (∀ x ∈ ls, Bs x) := by rw [hls]; intro x hx; obtain ⟨y, hy, rfl⟩ := List.mem_map.1 hx; exact hBl y hy
  have HC : Hid (∀ i (h : i < ls.length), ∃ b off v, al = some ⟨b, off, none⟩ ∧ w.cell? ⟨b, off + i, none⟩ = some v ∧ Sl w v ls[i]) := by
    intro i hi
    have hil : i < l.length := by rw [hls] at hi; simpa using hi
    obtain ⟨b', o', e, h1, h2, _⟩ := hcell i hil
    refine ⟨b', o', l[i].1, e, h1, ?_⟩
    have : ls[i] = l[i].2 := by
      have h1 : ls[i]? = (l.map (·.2))[i]? := by rw [hls]
      rw [List.getElem?_eq_getElem hi, List.getElem?_map, List.getElem?_eq_getElem hil] at h1
      exact Option.some.inj h1
    rw [this]; exact h2
  have hlen : l.length = ls.length := by rw [hls]; simp
  rw [hlen] at hll ⊢
  clear hr hb hBl hcell hls hlen
  by_cases h64 : ls.length = 64
  · have H64 := hide h64
    rw [h64]
    clear h64 hll
    go_enter Tryd.func28, Tryd.ntmps28
    go_wp2_with fail
    refine (unhide HD).mono ?_
    rintro ee w2 ⟨rfl, K2⟩
    have HK2 := hide K2
    clear HD K2
    go_wp2_with fail
    go_loopw [7, 8] (fun v i wr => ∃ (k m c : Nat) (ao : Option Addr), k ≤ 64 ∧ v = .slice ao m c ∧ i = .int .i64 k ∧ Row wr w.heap.size v ((rtsP d ls).take k).flatten ∧ (∀ i (h : i < ls.length), i < k → ls[i].length = 32) ∧ Kp [] w wr) (fun _ i _ => 64 - (intOf i).toNat)
    case atStart => exact ⟨0, 0, 0, none, by omega, rfl, rfl, row_nil _ _, (fun i h h' => by omega), unhide HK2⟩
    case round =>
      obtain ⟨k, m, c, ao, hk, rfl, rfl, Rr, hgood, Kr⟩ := hrel
      have HRr := hide Rr
      have HGo := hide hgood
      have HKr := hide Kr
      clear Rr hgood Kr HK2
      by_cases hlt : k < 64
      · have hlt2 : (k : Int) < 64 := by omega
        have hkl : k < ls.length := by have := unhide H64; omega
        obtain ⟨b', o', v, rfl, hc, hS⟩ := unhide HC k hkl
        have hcw := (unhide HKr).cell hc (by simp)
        have hSw := hS.kept (unhide HKr) (by simp)
        have HE := hide (rts_take d ls k hkl)
        have hfl := rts_take_len d ls k (unhide H64) (unhide HGo) hk
        have hBx := unhide HBl ls[k] (List.getElem_mem hkl)
        obtain ⟨fl, hfle⟩ : ∃ fl, fl = ((rtsP d ls).take k).flatten := ⟨_, rfl⟩
        rw [← hfle] at HE hfl HRr
        obtain ⟨x, hx⟩ : ∃ x, x = ls[k] := ⟨_, rfl⟩
        have HX := hide hx
        rw [← hx] at HE hS hSw hBx
        have HSw := hide hSw
        obtain ⟨ax, cx, hxv, hj⟩ := hS
        clear hj
        subst hxv
        clear hc HC hfle hx hSw
        by_cases h32 : x.length = 32
        · rw [h32] at hcw HSw
          have HG2 : Hid (∀ i (h : i < ls.length), i < k + 1 → ls[i].length = 32) := by
            intro i hi hik
            rcases Nat.lt_or_ge i k with h | h
            · exact unhide HGo i hi h
            · obtain rfl : i = k := by omega
              rw [← unhide HX]; exact h32
          obtain ⟨j, hj⟩ : ∃ j, j = k / 2 := ⟨_, rfl⟩
          have hji : (k : Int) / 2 = (j : Int) := by omega
          have hjt : Int.tdiv (k : Int) 2 = (j : Int) := by rw [Int.tdiv_eq_ediv_of_nonneg (by omega)]; omega
          have hj31 : (j : Int) ≤ 31 := by omega
          have hj2 : (31 - (j : Int)).toNat = 31 - j := by omega
          have hd0 : 0 ≤ d / 2 ^ (31 - j) := Int.ediv_nonneg h0 (Int.le_of_lt (Int.pow_pos (by omega)))
          have ha := and_one _ hd0
          rw [← sd_val] at ha
          obtain ⟨t, ht⟩ : ∃ t, t = sdP d j := ⟨_, rfl⟩
          rw [← ht] at ha
          have ht1 : (t : Int) ≤ 1 := by have := sdP_lt d j; rw [← ht] at this; omega
          obtain ⟨s, hs⟩ : ∃ s, s = k % 2 := ⟨_, rfl⟩
          have hsi : (k : Int) % 2 = (s : Int) := by omega
          have hst : Int.tmod (k : Int) 2 = (s : Int) := by rw [Int.tmod_eq_emod_of_nonneg (by omega)]; omega
          have hrt : rtP d k x = if t = s then sha (11 :: x) else x := by
            unfold rtP digC
            rw [← hj, ← hs, ← ht]
            by_cases h : t = s <;> simp [h]
          rw [hrt] at HE
          clear hrt hj hs ht hd0
          by_cases hts : t = s
          · subst hts
            rw [if_pos rfl] at HE
            have HL := hide (lists1 (unhide HSw) hBx)
            have HK := hide ((Kp.refl [] wr).alloc (.cells #[.slice ax 32 cx] 22))
            obtain ⟨q, hq⟩ : ∃ q, q = sha (11 :: x) := ⟨_, rfl⟩
            have hql : q.length = 32 := by rw [hq]; exact sha_len _
            rw [← hq] at HE
            have HQ := hide hq
            clear hq
            go_wp2_with fail
            refine (reftagged_any 11 _ _ q (by rw [unhide HQ, cat1]) _ (unhide HL) (by omega) (by omega) (by simp) (by simp; omega)).mono ?_
            rintro ee w5 ⟨a5, m5, c5, rfl, R5, K5⟩
            have HS5 := hide R5.sl
            have HK5 := hide ((unhide HK).trans K5)
            clear R5 K5 HL HK
            go_wp2_with (at_builtin; refine wpList_append_row rfl (.tmp 45) (.tmp 46) rfl w.heap.size _ fl rfl ((unhide HRr).kept (unhide HK5) (by simp)) _ q rfl (unhide HS5) (by omega) (by have := (unhide HKr).size; have := (unhide HK5).size; omega) ?_; intro ao6 m6 c6 w6 R6 s6)
            go_roundw
            case rel => exact ⟨k + 1, m6, c6, ao6, by omega, rfl, by go_num, by rw [unhide HE]; exact R6, unhide HG2, (unhide HRr).step (unhide HKr) (s6.after (unhide HK5))⟩
            case measure => simp [intOf]; omega
          · rw [if_neg hts] at HE
            have htsi : ((t : Int) == (s : Int)) = false := beq_eq_false_iff_ne.2 (by omega)
            go_wp2_with (at_builtin; refine wpList_append_row rfl (.tmp 45) (.tmp 46) rfl w.heap.size _ fl rfl (unhide HRr) _ x rfl (unhide HSw) (by omega) (by have := (unhide HKr).size; omega) ?_; intro ao6 m6 c6 w6 R6 s6)
            go_roundw
            case rel => exact ⟨k + 1, m6, c6, ao6, by omega, rfl, by go_num, by rw [unhide HE]; exact R6, unhide HG2, (unhide HRr).step (unhide HKr) s6⟩
            case measure => simp [intOf]; omega
        · have hbad := areP_bad (ls := ls) k hkl (by rw [← unhide HX]; exact h32)
          have hbf : b = false := (unhide HBb).trans hbad
          have h32i : ¬ (x.length : Int) = 32 := by omega
          clear hbad
          go_wp2_with fail
          go_ret2
          exact ⟨_, by rw [hbf]; rfl, by rw [hbf]; rfl, unhide HKr⟩
      · obtain rfl : k = 64 := by omega
        have hgd := areP_good (ls := ls) (unhide H64) (fun i hi => unhide HGo i hi (by have := unhide H64; omega))
        have hbt : b = true := (unhide HBb).trans hgd
        have hfl := rts_take_len d ls 64 (unhide H64) (unhide HGo) (by omega)
        have htk : (rtsP d ls).take 64 = rtsP d ls := List.take_of_length_le (by rw [rtsP_len]; have := unhide H64; omega)
        rw [htk] at HRr hfl
        obtain ⟨fl, hfle⟩ : ∃ fl, fl = (rtsP d ls).flatten := ⟨_, rfl⟩
        have hFB : Bs fl := by
          rw [hfle]
          intro y hy
          obtain ⟨z, hz, hy⟩ := List.mem_flatten.1 hy
          obtain ⟨i, hi, rfl⟩ := List.getElem_of_mem hz
          have hi2 : i < ls.length := by rw [rtsP_len] at hi; exact hi
          have : (rtsP d ls)[i] = rtP d i ls[i] := by simp [rtsP]
          rw [this] at hy
          exact rtP_bs (unhide HBl _ (List.getElem_mem hi2)) y hy
        have HR2 : Hid (r = sha (12 :: fl)) := by rw [unhide HR, hfle]; rfl
        rw [← hfle] at HRr hfl
        have HL := hide (lists1 (unhide HRr).sl hFB)
        have HK := hide ((unhide HKr).trans ((Kp.refl [] wr).alloc (.cells #[.slice ao m c] 22)))
        clear hfle hFB htk hgd HC HRr HKr HR
        subst hbt
        go_wp2_with fail
        refine (reftagged_any 12 _ _ r (by rw [unhide HR2, cat1]) _ (unhide HL) (by omega) (by omega) (by simp) (by simp; omega)).mono ?_
        rintro ee w6 ⟨a6, m6, c6, rfl, R6, K6⟩
        have HR6 := hide (row_new R6 (unhide HK))
        have HK6 := hide ((unhide HK).trans K6)
        clear HL HK R6 K6
        go_wp2_with fail
        go_ret2
        exact ⟨_, rfl, ⟨a6, m6, c6, rfl, unhide HR6⟩, unhide HK6⟩
  · have hbad := areP_short (ls := ls) h64
    have hbf : b = false := (unhide HBb).trans hbad
    subst hbf
    have hni : ¬ (ls.length : Int) = 64 := by omega
    clear HC hbad
    go_enter Tryd.func28, Tryd.ntmps28
    go_wp2_with fail
    go_ret2
    exact ⟨_, rfl, rfl, Kp.refl _ _⟩
end Go.Proofs.YtacfciimialobaaDoor
