/-
  The contract of the program's Root.
-/
import Derived.Test.YtdioaohejoflcaaDoorKOAre
namespace Go.Proofs.YtdioaohejoflcaaDoor
open Go.RowKit

theorem Sl.apart {w w' : World} {v : Value} {bs : List Int} {S : List Nat} (h : Sl w v bs) (k : Kp S w w') (hv : ∀ i, v.ownBlock = some i → i ∈ S → bs = []) : Sl w' v bs := by
  by_cases hb : bs = []
  · subst hb
    obtain ⟨ao, c, rfl, h1, h2, h3, _⟩ := h
    exact ⟨ao, c, rfl, h1, h2, h3, fun a _ j u hu => by simp at hu⟩
  · exact h.kept k (fun i hi hm => hb (hv i hi hm))
/-- v is a row of the call's own of slices that read so; none that holds something lies in it. -/
def RowS (w : World) (base : Nat) (v : Value) (l : List (Value × List Int)) : Prop :=
  RowV w base v (l.map (·.1)) ∧ ∀ x ∈ l, Sl w x.1 x.2 ∧ Bs x.2 ∧ ∀ k, x.1.ownBlock = some k → v.ownBlock = some k → x.2 = []
theorem RowS.lists {w : World} {base : Nat} {v : Value} {l : List (Value × List Int)} (h : RowS w base v l) (hl : l.length ≤ 1000) : Lists w v l :=
  lists_of_rowv h.1 hl (fun x hx => ⟨(h.2 x hx).1, (h.2 x hx).2.1⟩)
theorem RowS.kept {w w' : World} {base : Nat} {v : Value} {l : List (Value × List Int)} (h : RowS w base v l) (k : Kp [] w w') : RowS w' base v l :=
  ⟨h.1.kept k (by simp), fun x hx => ⟨(h.2 x hx).1.kept k (by simp), (h.2 x hx).2⟩⟩
theorem Parts.rowS {w : World} {base : Nat} {v : Value} {l : List (Value × List Int)} (h : Parts w base v l) : RowS w base v l :=
  ⟨h.1, fun x hx => ⟨(h.2 x hx).1.sl, (h.2 x hx).2.1, fun k h1 h2 => absurd h2 ((h.2 x hx).2.2 k h1)⟩⟩
/-- a slice is put in at place p. -/
theorem RowS.set {w : World} {base g n c : Nat} {l : List (Value × List Int)} (h : RowS w base (.slice (some ⟨g, 0, none⟩) n c) l) (p : Nat) (x : Value × List Int) (hx : Sl w x.1 x.2) (hB : Bs x.2) (ha : x.1.ownBlock = some g → x.2 = []) :
    RowS (w.setCell ⟨g, p, none⟩ x.1) base (.slice (some ⟨g, 0, none⟩) n c) (l.set p x) := by
  have k : Kp [g] w (w.setCell ⟨g, p, none⟩ x.1) := (Kp.refl [g] w).setCell (p := ⟨g, p, none⟩) (.inl (by simp)) _
  have hn : n = l.length := by have := h.1.len; simpa using this
  refine ⟨?_, fun y hy => ?_⟩
  · have e : (l.map (·.1)).length = n := by simp [hn]
    have h1 : w.ownsRow base 24 1 (.slice (some ⟨g, 0, none⟩) n c) n (l.map (·.1)) := by have := h.1; unfold RowV at this; rw [e] at this; exact this
    have h2 := (h1.stored p x.1).1
    unfold RowV
    rw [List.map_set, List.length_set, e]
    exact h2
  · rcases List.mem_or_eq_of_mem_set hy with hy | rfl
    · obtain ⟨h1, h2, h3⟩ := h.2 y hy
      exact ⟨h1.apart k (fun i hi hm => h3 i hi (by simp at hm; subst hm; rfl)), h2, h3⟩
    · exact ⟨hx.apart k (fun i hi hm => ha (by simp at hm; subst hm; exact hi)), hB, fun i hi hv => ha (by cases hv; exact hi)⟩
theorem RowS.spot {w : World} {base n c : Nat} {ao : Option Addr} {l : List (Value × List Int)} (h : RowS w base (.slice ao n c) l) (hn : 0 < n) : ∃ g, ao = some ⟨g, 0, none⟩ ∧ base ≤ g ∧ g < w.heap.size ∧ n = l.length ∧ (∀ i, i < n → ∃ u, w.cell? ⟨g, i, none⟩ = some u) ∧ ∀ i, w.frozen? ⟨g, i, none⟩ = false := by
  have hl := h.1.len
  subst hl
  rcases h.1.2 with ⟨h', h0⟩ | ⟨g, cap, cur, h', hb, hg, _⟩
  · omega
  · have e : ao = some ⟨g, 0, none⟩ := by injection h'
    subst e
    have h1 : w.ownsRow base 24 1 (.slice (some ⟨g, 0, none⟩) (l.map (·.1)).length c) (l.map (·.1)).length (l.map (·.1)) := h.1
    refine ⟨g, rfl, hb, (Array.getElem?_eq_some_iff.1 hg).1, by simp, fun i hi => ?_, fun i => h1.frozenAt i⟩
    rw [h1.cellAt i (by omega)]
    exact ⟨_, List.getElem?_eq_getElem hi⟩
/-- a list that is copied whole into a new row. -/
theorem rowS_copy {w w' : World} {al : Option Addr} {cl : Nat} {ao : Option Addr} {m c : Nat} {l : List (Value × List Int)} (hL : Lists w (.slice al l.length cl) l) (hr : RowV w' w.heap.size (.slice ao m c) (l.map (·.1))) (k : Kp [] w w') : RowS w' w.heap.size (.slice ao m c) l := by
  refine ⟨hr, fun x hx => ?_⟩
  obtain ⟨i, hi, rfl⟩ := List.getElem_of_mem hx
  obtain ⟨_, _, _, _, h2⟩ := hL
  obtain ⟨_, _, _, _, hS, hB⟩ := h2 i hi
  refine ⟨hS.kept k (by simp), hB, fun j hj hv => ?_⟩
  by_cases hb : l[i].2 = []
  · exact hb
  · obtain ⟨ao', c', e, h1, _, h3, h4⟩ := hS
    cases ao' with
    | none => exact List.eq_nil_of_length_eq_zero (by have := h3 rfl; omega)
    | some a =>
      have hpos : 0 < l[i].2.length := List.length_pos_iff.2 hb
      have hc := h4 a rfl 0 (.int .u8 l[i].2[0]) (by simp [List.getElem?_eq_getElem hpos])
      have hlt := World.block_lt_of_cell? _ _ hc
      rw [add_block] at hlt
      rw [e] at hj
      have : a.block = j := by simpa [Value.ownBlock] using hj
      have := hr.own j hv
      omega

theorem are_cases (l : List (Value × List Int)) : (areP (l.map (·.2)) = true ∧ l.length = 64 ∧ ∀ x ∈ l, x.2.length = 32) ∨ areP (l.map (·.2)) = false := by
  cases h : areP (l.map (·.2))
  · exact .inr rfl
  · refine .inl ⟨rfl, by simpa using areP_len h, fun x hx => areP_at h x.2 (List.mem_map.2 ⟨x, hx, rfl⟩)⟩

/-- what Root answers. -/
def Rooted (b : Bool) (r : List Int) (base : Nat) (v : Value) (w : World) : Prop := if b then ∃ ao m c, v = .slice ao m c ∧ Row w base v r else v = .slice none 0 0

set_option maxRecDepth 100000 in
set_option maxHeartbeats 2000000 in
theorem root_any (vm : Value) (ms : List Int) (vl : Value) (l : List (Value × List Int)) (d : Int) (b : Bool) (r : List Int) (hd : d = digP ms) (hb : b = areP (l.map (·.2))) (hr : r = rootP d (l.map (·.2))) (w : World) (hM : Sl w vm ms) (hMB : Bs ms) (hml : ms.length ≤ 1000) (hL : Lists w vl l) (hG : Gl w) :
    Calls Tryd.prog 38 #[vm, vl] w fun e w' => ∃ v, e = .returned (.tuple #[v, .bool b]) ∧ Rooted b r w.heap.size v w' ∧ Kp [] w w' := by
  have h0 : 0 ≤ d := by rw [hd]; exact (digP_bd ms).1
  have HA := hide (are_any vl l b hb w hL)
  have HD := hide (digest_any vm ms d hd w hM hMB (by omega) hG)
  have HG := hide hG
  have HL := hide hL
  have HR := hide hr
  obtain ⟨al, cl, hvl, hll, hcell⟩ := hL
  subst hvl
  obtain ⟨am, cm, hvm, _⟩ := hM
  obtain ⟨nm, hnm⟩ : ∃ n, n = ms.length := ⟨_, rfl⟩
  rw [← hnm] at hvm
  subst hvm
  clear hG hMB hd hr hnm
  rcases are_cases l with ⟨hare, hl64, hl32⟩ | hare
  · rw [hare] at hb
    subst hb
    have HC := hide hcell
    have H64 := hide hl64
    have H32 := hide hl32
    obtain ⟨b0, o0, e0, hjunk⟩ := hcell 0 (by omega)
    clear hjunk
    subst e0
    rw [hl64] at HA ⊢
    clear hcell hare hl64 hl32
    go_enter Tryd.func38, Tryd.ntmps38
    go_wp2_with fail
    refine (unhide HA).mono ?_
    rintro ee w1 ⟨rfl, hw⟩
    subst w1
    go_wp2_with fail
    refine (unhide HD).mono ?_
    rintro ee w2 ⟨rfl, K2⟩
    have HK2 := hide K2
    clear HA HD K2
    have HAP : Hid (∀ j u, (l.map (·.1))[j]? = some u → w2.cell? ((⟨b0, o0, none⟩ : Addr).add j) = some u) := by
      intro j u hu
      have hj : j < l.length := by have := (List.getElem?_eq_some_iff.1 hu).1; simpa using this
      obtain ⟨b', o', e, hc, _⟩ := unhide HC j hj
      injection e with e
      injection e with e1 e2
      subst e1
      subst e2
      rw [Addr.add_lit, (unhide HK2).cell hc (by simp), ← hu]
      simp [List.getElem?_eq_getElem hj]
    have HON : Hid (∀ u ∈ l.map (·.1), u.oneCell' = true) := by
      intro u hu
      obtain ⟨x, hx, rfl⟩ := List.mem_map.1 hu
      obtain ⟨i, hi, rfl⟩ := List.getElem_of_mem hx
      obtain ⟨_, _, _, _, ⟨_, _, e, _⟩, _⟩ := unhide HC i hi
      rw [e]; rfl
    have HM64 : Hid ((l.map (·.1)).length = 64) := by rw [List.length_map]; exact unhide H64
    obtain ⟨ys, hys⟩ : ∃ ys, ys = l.map (·.1) := ⟨_, rfl⟩
    rw [← hys] at HAP HON HM64
    have hxs : Hid ((.slice (some ⟨b0, o0, none⟩) 64 cl : Value) = .slice (some ⟨b0, o0, none⟩) ys.length cl) := by rw [unhide HM64]; rfl
    go_wp2_with (at_builtin; refine wpList_append_rowv rfl (.const (.slice none 0 0)) (.tmp 15) rfl w2.heap.size (.slice none 0 0) [] rfl ⟨rfl, .inl ⟨rfl, rfl⟩⟩ ⟨b0, o0, none⟩ cl ys (unhide hxs) (unhide HAP) (unhide HON) (by have := unhide HM64; simp; omega) (Nat.le_refl _) ?_; intro a3 m3 c3 w3 R3 S3)
    have K3 : Kp [] w2 w3 := S3.1.mono (by simp [Value.ownBlock])
    rw [List.nil_append, hys] at R3
    have RS3 := rowS_copy ((unhide HL).kept (unhide HK2)) R3 K3
    obtain rfl : m3 = 64 := by have := RS3.1.len; rw [this, List.length_map]; exact unhide H64
    obtain ⟨g, rfl, hg1, hg2, hj0, hj1, hj2⟩ := RS3.spot (by omega)
    clear hj0 hj1 hj2
    have HRS3 := hide RS3
    have HK3 := hide ((unhide HK2).trans K3)
    have hgw : w2.heap.size ≤ g := hg1
    have HKs := hide (unhide HK2).size
    clear R3 S3 K3 RS3 HAP HON HM64 hxs hys HK2
    obtain ⟨ls, hls⟩ : ∃ ls, ls = l.map (·.2) := ⟨_, rfl⟩
    have HLS := hide hls
    rw [← hls] at HR
    have HLL : Hid (ls.length = 64) := by rw [hls, List.length_map]; exact unhide H64
    clear hls
    go_loopw [17] (fun i wr => ∃ (k : Nat) (l2 : List (Value × List Int)), k ≤ 32 ∧ i = .int .i64 k ∧ RowS wr w2.heap.size (.slice (some ⟨g, 0, none⟩) 64 c3) l2 ∧ l2.map (·.2) = mixP d ls k ∧ Kp [] w wr) (fun i _ => 32 - (intOf i).toNat)
    case atStart => exact ⟨0, l, by omega, rfl, unhide HRS3, by rw [mixP_zero]; exact (unhide HLS).symm, unhide HK3⟩
    case round =>
      obtain ⟨k, l2, hk, rfl, Rr, hmix, Kr⟩ := hrel
      clear HRS3 HK3
      have HRr := hide Rr
      have HMX := hide hmix
      have HKr := hide Kr
      clear Rr hmix Kr
      by_cases hlt : k < 32
      · have hlt2 : (k : Int) < 32 := by omega
        obtain ⟨t, ht⟩ : ∃ t, t = sdP d k := ⟨_, rfl⟩
        have htl : t < 2 := by rw [ht]; exact sdP_lt d k
        obtain ⟨p, hp⟩ : ∃ p, p = 2 * k + t := ⟨_, rfl⟩
        have hpi : 2 * (k : Int) + (t : Int) = (p : Int) := by omega
        have hp64 : (p : Int) < 64 := by omega
        have hpl : p < l.length := by have := unhide H64; omega
        have hpls : p < ls.length := by have := unhide HLL; omega
        obtain ⟨b', o', e, hc, hS, hBx⟩ := unhide HC p hpl
        injection e with e
        injection e with e1 e2
        subst e1
        subst e2
        have hx32 := unhide H32 l[p] (List.getElem_mem hpl)
        have hxls : ls[p] = l[p].2 := by
          have h1 : ls[p]? = (l.map (·.2))[p]? := by rw [unhide HLS]
          rw [List.getElem?_eq_getElem hpls, List.getElem?_map, List.getElem?_eq_getElem hpl] at h1
          exact Option.some.inj h1
        obtain ⟨x, hx⟩ : ∃ x, x = l[p] := ⟨_, rfl⟩
        rw [← hx] at hc hS hx32 hxls hBx
        have hcw := (unhide HKr).cell hc (by simp)
        have hSw := hS.kept (unhide HKr) (by simp)
        obtain ⟨q, hq⟩ : ∃ q, q = sha (11 :: x.2) := ⟨_, rfl⟩
        have HQB : Hid (Bs q) := by rw [hq]; exact sha_bs _
        have HMS : Hid ((mixP d ls k).set p q = mixP d ls (k + 1)) := by
          have := mixP_succ d ls k p (by rw [hp, ht]) hpls
          rw [hxls, ← hq] at this
          exact this
        have HSH := hide (shownOf_any x.1 x.2 q hq wr hSw hBx (by omega) ((unhide HG).kept (unhide HKr) (by simp)))
        have HSD := hide (fun w => sideOf_any d k t ht w h0 hlt)
        obtain ⟨ax, cx, hxv, hj3⟩ := hS
        clear hj3
        rw [hx32] at hxv
        rw [hxv] at hcw HSH
        clear hc hSw hq hx hx32 hxls hxv ht hp HC hBx
        go_wp2_with fail
        refine (unhide HSD _).mono ?_
        rintro ee w4 ⟨rfl, hw4⟩
        subst w4
        go_wp2_with fail
        refine (unhide HSH).mono ?_
        rintro ee w5 ⟨a5, m5, c5, rfl, R5, K5⟩
        have RS5 := (unhide HRr).kept K5
        obtain ⟨g', hg', hj0, hgs, hj1, hcs, hfs⟩ := RS5.spot (by omega)
        clear hj0 hj1
        cases hg'
        obtain ⟨u, hu⟩ := hcs p (by omega)
        have hf := hfs p
        have hglt : g < wr.heap.size := by obtain ⟨g'', hg'', _, h', _⟩ := (unhide HRr).spot (by omega); cases hg''; exact h'
        have hne : ∀ i, (Value.slice a5 m5 c5).ownBlock = some i → g ≠ i := fun i hi => by have := R5.own i hi; omega
        have HRS := hide (RS5.set p (.slice a5 m5 c5, q) R5.sl (unhide HQB) (fun h => absurd rfl (hne g h)))
        have HKN : Hid (Kp [] w (w5.setCell ⟨g, p, none⟩ (.slice a5 m5 c5))) := ((unhide HKr).trans K5).setCell (p := ⟨g, p, none⟩) (.inr (Nat.le_trans (unhide HKs) hgw)) _
        have HMN : Hid ((l2.set p (.slice a5 m5 c5, q)).map (·.2) = mixP d ls (k + 1)) := by rw [List.map_set, unhide HMX]; exact unhide HMS
        clear R5 K5 RS5 hcs hfs HSH HSD hne HMS HMX
        go_wp2_with fail
        go_roundw
        case rel => exact ⟨k + 1, _, by omega, by go_num, unhide HRS, unhide HMN, unhide HKN⟩
        case measure => simp [intOf]; omega
      · obtain rfl : k = 32 := by omega
        have hl2 : l2.length = 64 := by rw [← List.length_map (f := (·.2)), unhide HMX, mixP_len]; exact unhide HLL
        have hcat : cat l2 = (rtsP d ls).flatten := by rw [cat_map (unhide HMX), mixP_all _ _ (unhide HLL)]
        have hsm : ∀ x ∈ l2, x.2.length ≤ 1000000 := small_of_map (unhide HMX) (by
          rw [mixP_all _ _ (unhide HLL)]
          intro x hx
          have := rtsP_small (d := d) (ls := ls) (by rw [unhide HLS]; intro y hy; obtain ⟨z, hz, rfl⟩ := List.mem_map.1 hy; exact unhide H32 z hz) x hx
          omega)
        have HP := hide (publicOf_any _ l2 r (by rw [unhide HR, hcat]; rfl) wr ((unhide HRr).lists (by omega)) (by omega) hsm ((unhide HG).kept (unhide HKr) (by simp)))
        clear hcat hsm HMX HR HC
        go_wp2_with fail
        refine (unhide HP).mono ?_
        rintro ee w6 ⟨a6, m6, c6, rfl, R6, K6⟩
        have HR6 := hide (row_new R6 (unhide HKr))
        have HK6 := hide ((unhide HKr).trans K6)
        clear HP R6 K6
        go_wp2_with fail
        go_ret2
        exact ⟨_, rfl, ⟨a6, m6, c6, rfl, unhide HR6⟩, unhide HK6⟩
  · rw [hare] at hb
    subst hb
    clear hcell
    go_enter Tryd.func38, Tryd.ntmps38
    go_wp2_with fail
    refine (unhide HA).mono ?_
    rintro ee w1 ⟨rfl, hw⟩
    subst w1
    go_wp2_with fail
    go_ret2
    exact ⟨_, rfl, rfl, Kp.refl _ _⟩
end Go.Proofs.YtdioaohejoflcaaDoor
