/-
  The contracts of the program's Public and Sign.
-/
import Derived.Test.YtdioaohejoflcaaDoorKOParts
namespace Go.Proofs.YtdioaohejoflcaaDoor
open Go.RowKit
open Go.Proofs

theorem Acc.lists {w wr : World} {ls : List (List Int)} {v : Value} (h : Acc w ls v wr) (hl : ls.length ≤ 1000) : ∃ l, Lists wr v l ∧ l.map (·.2) = ls := by
  obtain ⟨l, h1, h2, _⟩ := h
  exact ⟨l, h1.lists (by rw [← List.length_map (f := (·.2)), h2]; exact hl), h2⟩
theorem Acc.after {w w0 wr : World} {ls : List (List Int)} {v : Value} (h : Acc w0 ls v wr) (k : Kp [] w w0) : Acc w ls v wr := by
  obtain ⟨l, h1, h2, h3⟩ := h
  exact ⟨l, h1.rebase k, h2, k.trans h3⟩
theorem cat_map {l : List (Value × List Int)} {ls : List (List Int)} (h : l.map (·.2) = ls) : cat l = ls.flatten := by unfold cat; rw [h]
theorem small_of_map {l : List (Value × List Int)} {ls : List (List Int)} (h : l.map (·.2) = ls) {n : Nat} (hn : ∀ x ∈ ls, x.length ≤ n) : ∀ x ∈ l, x.2.length ≤ n := fun x hx => hn x.2 (by rw [← h]; exact List.mem_map.2 ⟨x, hx, rfl⟩)
theorem ptsP_small (bs : List Int) (key : Int) (c : Nat → Nat → Bool) (n : Nat) : ∀ x ∈ ptsP bs key c n, x.length ≤ 1000000 := by
  intro x hx
  unfold ptsP at hx
  obtain ⟨i, _, rfl⟩ := List.mem_map.1 hx
  rw [ptP_len]; omega

set_option maxRecDepth 100000 in
set_option maxHeartbeats 1000000 in
theorem public_any (vb : Value) (bs : List Int) (key : Int) (r : List Int) (hr : r = pubP bs key) (w : World) (hS : Sl w vb bs) (hB : Bs bs) (hl : bs.length ≤ 1000) (hG : Gl w) :
    Calls Tryd.prog 56 #[vb, .int .i64 key] w fun e w' => ∃ ao m c, e = .returned (.slice ao m c) ∧ Row w' w.heap.size (.slice ao m c) r ∧ Kp [] w w' := by
  have HC := hide (partsOf_any vb bs key noneC 78 #[] (enters_of Tryd.func78 (by kernel_rfl) rfl) w hS hB hl hG (fun j _ w' _ => bothShown_any (j : Nat) w'))
  have HG := hide hG
  have HR := hide hr
  obtain ⟨ab, cb, hvb, _⟩ := hS
  obtain ⟨nb, hnb⟩ : ∃ n, n = bs.length := ⟨_, rfl⟩
  rw [← hnb] at hvb
  subst hvb
  clear hG hB hr hnb
  go_enter Tryd.func56, Tryd.ntmps56
  go_wp2_with fail
  refine (unhide HC).mono ?_
  rintro ee w2 ⟨a2, m2, c2, rfl, A2⟩
  obtain ⟨l, hL, hl2⟩ := A2.lists (by rw [ptsP_len]; omega)
  have HK2 := hide A2.kp
  have HP := hide (publicOf_any _ l r (by rw [unhide HR, cat_map hl2]; rfl) w2 hL (by rw [← List.length_map (f := (·.2)), hl2, ptsP_len]; omega) (small_of_map hl2 (ptsP_small _ _ _ _)) ((unhide HG).kept (unhide HK2) (by simp)))
  clear HC A2 hL hl2
  go_wp2_with fail
  refine (unhide HP).mono ?_
  rintro ee w3 ⟨a3, m3, c3, rfl, R3, K3⟩
  have HR3 := hide (row_new R3 (unhide HK2))
  have HK3 := hide ((unhide HK2).trans K3)
  clear HP HK2 R3 K3
  go_wp2_with fail
  go_ret
  exact ⟨a3, m3, c3, rfl, unhide HR3, unhide HK3⟩

set_option maxRecDepth 100000 in
set_option maxHeartbeats 1000000 in
theorem sign_any (vb : Value) (bs : List Int) (key : Int) (vm : Value) (ms : List Int) (d : Int) (hd : d = digP ms) (w : World) (hS : Sl w vb bs) (hB : Bs bs) (hl : bs.length ≤ 1000) (hM : Sl w vm ms) (hMB : Bs ms) (hml : ms.length ≤ 1000) (hG : Gl w) :
    Calls Tryd.prog 34 #[vb, .int .i64 key, vm] w fun e w' => ∃ ao m c, e = .returned (.slice ao m c) ∧ Acc w (sgnP bs key d) (.slice ao m c) w' := by
  have h0 : 0 ≤ d := by rw [hd]; exact (digP_bd ms).1
  have HD := hide (digest_any vm ms d hd w hM hMB (by omega) hG)
  have HG := hide hG
  have HS := hide hS
  have HB := hide hB
  obtain ⟨ab, cb, hvb, _⟩ := hS
  obtain ⟨nb, hnb⟩ : ∃ n, n = bs.length := ⟨_, rfl⟩
  rw [← hnb] at hvb
  subst hvb
  obtain ⟨am, cm, hvm, _⟩ := hM
  obtain ⟨nm, hnm⟩ : ∃ n, n = ms.length := ⟨_, rfl⟩
  rw [← hnm] at hvm
  subst hvm
  clear hG hB hnb hnm hMB hd
  go_enter Tryd.func34, Tryd.ntmps34
  go_wp2_with fail
  refine (unhide HD).mono ?_
  rintro ee w2 ⟨rfl, K2⟩
  have HK2 := hide K2
  clear HD K2
  go_wp2_with fail
  have K3 := (Kp.refl [] w2).alloc (.cells #[.int .u32 d] 70)
  refine (partsOf_any _ bs key (digC d) 60 #[.pointer (some ⟨w2.heap.size, 0, none⟩)] (enters_of Tryd.func60 (by kernel_rfl) rfl) _ (((unhide HS).kept (unhide HK2) (by simp)).kept K3 (by simp)) (unhide HB) hl (((unhide HG).kept (unhide HK2) (by simp)).kept K3 (by simp)) (fun j hj w' hk => sign1_any d j w2.heap.size w' h0 hj (hk.cell (by rw [cell_of_row _ _ 0 _ _ _ (heap_alloc_new w2 _)]; rfl) (by simp)))).mono ?_
  rintro ee w4 ⟨a4, m4, c4, rfl, A4⟩
  have HA := hide (A4.after ((unhide HK2).trans K3))
  clear A4 K3 HK2
  go_wp2_with fail
  go_ret
  exact ⟨a4, m4, c4, rfl, unhide HA⟩
end Go.Proofs.YtdioaohejoflcaaDoor
