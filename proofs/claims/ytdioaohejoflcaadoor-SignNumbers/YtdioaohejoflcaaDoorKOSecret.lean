/-
  The contracts of the program's Secret, Shown, and what they call.
-/
import Derived.Test.YtdioaohejoflcaaDoorKODigest
namespace Go.Proofs.YtdioaohejoflcaaDoor
open Go.RowKit

theorem lists2 {w : World} {v u : Value} {bs cs : List Int} (h : Sl w v bs) (hB : Bs bs) (k : Sl w u cs) (hC : Bs cs) : Lists (w.alloc (.cells #[v, u] 24)) (.slice (some ⟨w.heap.size, 0, none⟩) 2 2) [(v, bs), (u, cs)] :=
  lists_of_block (l := [(v, bs), (u, cs)]) (t := 24) (fr := (0, 0)) (heap_alloc_new w _) (by simp) (fun x hx => by
    rcases (by simpa using hx : x = (v, bs) ∨ x = (u, cs)) with rfl | rfl
    · exact ⟨h.kept ((Kp.refl [] w).alloc _) (by simp), hB⟩
    · exact ⟨k.kept ((Kp.refl [] w).alloc _) (by simp), hC⟩)
theorem cat2 (v u : Value) (bs cs : List Int) : cat [(v, bs), (u, cs)] = bs ++ cs := by simp [cat]
theorem row_new {w w0 w' : World} {v : Value} {bs : List Int} (h : Row w' w0.heap.size v bs) (k : Kp [] w w0) : Row w' w.heap.size v bs :=
  owns_rebase h (fun i hi => Nat.le_trans k.size (Row.own h i hi))

set_option maxRecDepth 100000 in
set_option maxHeartbeats 1000000 in
theorem secret_any (vb : Value) (bs : List Int) (key bit side : Int) (r : List Int) (hr : r = secP bs key bit side) (w : World) (hS : Sl w vb bs) (hB : Bs bs) (hl : bs.length ≤ 1000) (hG : Gl w) :
    Calls Tryd.prog 80 #[vb, .int .i64 key, .int .i64 bit, .int .i64 side] w fun e w' => ∃ ao m c, e = .returned (.slice ao m c) ∧ Row w' w.heap.size (.slice ao m c) r ∧ Kp [] w w' := by
  obtain ⟨ob, hob⟩ : ∃ o : Obj, o = (.cells #[.int .u8 (key / 16777216 % 256), .int .u8 (key / 65536 % 256), .int .u8 (key / 256 % 256), .int .u8 (key % 256), .int .u8 (bit % 256), .int .u8 (side % 256)] 5) := ⟨_, rfl⟩
  have hP : Sl (w.alloc ob) (.slice (some ⟨w.heap.size, 0, none⟩) 6 6) (be4 key ++ [bit % 256, side % 256]) := by
    rw [hob]; exact Sl.block (cs := be4 key ++ [bit % 256, side % 256]) (t := 5) (fr := (0, 0)) (heap_alloc_new w _) (by simp [be4, maxLen])
  have hPB : Bs (be4 key ++ [bit % 256, side % 256]) := by
    intro b hb
    rcases List.mem_append.1 hb with h | h
    · exact be4_bs key b h
    · simp only [List.mem_cons, List.not_mem_nil, or_false] at h
      rcases h with rfl | rfl <;> omega
  have HL0 := lists2 (hS.kept ((Kp.refl [] w).alloc ob) (by simp)) hB hP hPB
  rw [show (w.alloc ob).heap.size = w.heap.size + 1 by simp] at HL0
  have HL := hide HL0
  clear HL0
  have HG := hide hG
  have HO := hide hob
  have HK := hide (((Kp.refl [] w).alloc ob).alloc (.cells #[vb, .slice (some ⟨w.heap.size, 0, none⟩) 6 6] 24))
  have hm : Hid (∀ x ∈ [(vb, bs), (Value.slice (some ⟨w.heap.size, 0, none⟩) 6 6, be4 key ++ [bit % 256, side % 256])], x.2.length ≤ 1000000) := by
    intro x hx
    rcases (by simpa using hx : x = (vb, bs) ∨ x = (Value.slice (some ⟨w.heap.size, 0, none⟩) 6 6, be4 key ++ [bit % 256, side % 256])) with rfl | rfl
    · simp; omega
    · simp [be4]
  have HR : Hid (r = sha (10 :: cat [(vb, bs), (Value.slice (some ⟨w.heap.size, 0, none⟩) 6 6, be4 key ++ [bit % 256, side % 256])])) := by rw [hr, cat2]; rfl
  obtain ⟨ab, cb, hvb, _⟩ := hS
  obtain ⟨nb, hnb⟩ : ∃ n, n = bs.length := ⟨_, rfl⟩
  rw [← hnb] at hvb
  subst hvb
  clear hG hr hnb hB hob hP hPB
  go_enter Tryd.func80, Tryd.ntmps80
  go_wp2_with fail
  rw [← unhide HO]
  refine (tagged_any 10 _ _ r (unhide HR) _ (unhide HL) (by omega) (by omega) (by simp) (unhide hm) ((unhide HG).kept (unhide HK) (by simp))).mono ?_
  rintro ee w2 ⟨ao2, m2, c2, rfl, R2, K2⟩
  have HR2 := hide (row_new R2 (unhide HK))
  have HK2 := hide ((unhide HK).trans K2)
  clear HL HK hm HR HO R2 K2
  go_wp2_with fail
  go_ret
  exact ⟨ao2, m2, c2, rfl, unhide HR2, unhide HK2⟩

set_option maxHeartbeats 1000000 in
theorem shownOf_any (vb : Value) (bs : List Int) (r : List Int) (hr : r = sha (11 :: bs)) (w : World) (hS : Sl w vb bs) (hB : Bs bs) (hl : bs.length ≤ 1000) (hG : Gl w) :
    Calls Tryd.prog 67 #[vb] w fun e w' => ∃ ao m c, e = .returned (.slice ao m c) ∧ Row w' w.heap.size (.slice ao m c) r ∧ Kp [] w w' := by
  have HL := hide (lists1 hS hB)
  have HG := hide hG
  have HR : Hid (r = sha (11 :: cat [(vb, bs)])) := hide (by rw [hr, cat1])
  have HK := hide ((Kp.refl [] w).alloc (.cells #[vb] 24))
  obtain ⟨ab, cb, hvb, _⟩ := hS
  obtain ⟨nb, hnb⟩ : ∃ n, n = bs.length := ⟨_, rfl⟩
  rw [← hnb] at hvb
  subst hvb
  clear hG hr hnb hB
  go_enter Tryd.func67, Tryd.ntmps67
  go_wp2_with fail
  refine (tagged_any 11 _ _ r (unhide HR) _ (unhide HL) (by omega) (by omega) (by simp) (by simp; omega) ((unhide HG).kept (unhide HK) (by simp))).mono ?_
  rintro ee w2 ⟨ao2, m2, c2, rfl, R2, K2⟩
  have HR2 := hide (row_new R2 (unhide HK))
  have HK2 := hide ((unhide HK).trans K2)
  clear HL HK HR R2 K2
  go_wp2_with fail
  go_ret
  exact ⟨ao2, m2, c2, rfl, unhide HR2, unhide HK2⟩

set_option maxHeartbeats 1000000 in
theorem publicOf_any (vl : Value) (l : List (Value × List Int)) (r : List Int) (hr : r = sha (12 :: cat l)) (w : World) (hL : Lists w vl l) (hn : l.length ≤ 100000) (hm : ∀ x ∈ l, x.2.length ≤ 1000000) (hG : Gl w) :
    Calls Tryd.prog 68 #[vl] w fun e w' => ∃ ao m c, e = .returned (.slice ao m c) ∧ Row w' w.heap.size (.slice ao m c) r ∧ Kp [] w w' := by
  have HC := hide (tagged_any 12 vl l r hr w hL (by omega) (by omega) hn hm hG)
  obtain ⟨al, cl, rfl, _⟩ := hL
  clear hr hm hG
  go_enter Tryd.func68, Tryd.ntmps68
  go_wp2_with fail
  refine (unhide HC).mono ?_
  rintro ee w2 ⟨ao2, m2, c2, rfl, R2, K2⟩
  clear HC
  go_wp2_with fail
  go_ret
  exact ⟨ao2, m2, c2, rfl, R2, K2⟩

set_option maxHeartbeats 1000000 in
theorem shown_any (vb : Value) (bs : List Int) (key bit side : Int) (r : List Int) (hr : r = shnP bs key bit side) (w : World) (hS : Sl w vb bs) (hB : Bs bs) (hl : bs.length ≤ 1000) (hG : Gl w) :
    Calls Tryd.prog 83 #[vb, .int .i64 key, .int .i64 bit, .int .i64 side] w fun e w' => ∃ ao m c, e = .returned (.slice ao m c) ∧ Row w' w.heap.size (.slice ao m c) r ∧ Kp [] w w' := by
  obtain ⟨q, hq⟩ : ∃ q, q = secP bs key bit side := ⟨_, rfl⟩
  have HC := hide (secret_any vb bs key bit side q hq w hS hB hl hG)
  have HQL : Hid (q.length = 32) := by rw [hq]; exact secP_len _ _ _ _
  have HQB : Hid (Bs q) := by rw [hq]; exact sha_bs _
  have HR : Hid (r = sha (11 :: q)) := by rw [hr, hq]; rfl
  have HG := hide hG
  obtain ⟨ab, cb, hvb, _⟩ := hS
  obtain ⟨nb, hnb⟩ : ∃ n, n = bs.length := ⟨_, rfl⟩
  rw [← hnb] at hvb
  subst hvb
  clear hG hr hnb hB hq
  go_enter Tryd.func83, Tryd.ntmps83
  go_wp2_with fail
  refine (unhide HC).mono ?_
  rintro ee w2 ⟨ao2, m2, c2, rfl, R2, K2⟩
  have HR2 := hide R2
  have HK2 := hide K2
  clear HC R2 K2
  go_wp2_with fail
  refine (shownOf_any _ q r (unhide HR) w2 (unhide HR2).sl (unhide HQB) (by have := unhide HQL; omega) ((unhide HG).kept (unhide HK2) (by simp))).mono ?_
  rintro ee w3 ⟨ao3, m3, c3, rfl, R3, K3⟩
  have HR3 := hide (row_new R3 (unhide HK2))
  have HK3 := hide ((unhide HK2).trans K3)
  clear HR2 HK2 R3 K3
  go_wp2_with fail
  go_ret
  exact ⟨ao3, m3, c3, rfl, unhide HR3, unhide HK3⟩
end Go.Proofs.YtdioaohejoflcaaDoor
