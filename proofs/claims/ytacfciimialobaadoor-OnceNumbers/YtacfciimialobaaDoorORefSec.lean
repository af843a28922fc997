/-
  The contracts of the reference's Secret, Shown, Public and Sign.
-/
import Derived.Test.YtacfciimialobaaDoorORefDig
import Derived.Test.YtacfciimialobaaDoorOPub
namespace Go.Proofs.YtacfciimialobaaDoor
open Go.RowKit

theorem lists3 {w : World} {v u t : Value} {bs cs ds : List Int} (h : Sl w v bs) (hB : Bs bs) (k : Sl w u cs) (hC : Bs cs) (j : Sl w t ds) (hD : Bs ds) : Lists (w.alloc (.cells #[v, u, t] 22)) (.slice (some ⟨w.heap.size, 0, none⟩) 3 3) [(v, bs), (u, cs), (t, ds)] :=
  lists_of_block (l := [(v, bs), (u, cs), (t, ds)]) (t := 22) (fr := (0, 0)) (heap_alloc_new w _) (by simp) (fun x hx => by
    rcases (by simpa using hx : x = (v, bs) ∨ x = (u, cs) ∨ x = (t, ds)) with rfl | rfl | rfl
    · exact ⟨h.kept ((Kp.refl [] w).alloc _) (by simp), hB⟩
    · exact ⟨k.kept ((Kp.refl [] w).alloc _) (by simp), hC⟩
    · exact ⟨j.kept ((Kp.refl [] w).alloc _) (by simp), hD⟩)
theorem cat3 (v u t : Value) (bs cs ds : List Int) : cat [(v, bs), (u, cs), (t, ds)] = bs ++ (cs ++ ds) := by simp [cat]
theorem row_nil (w : World) (base : Nat) : Row w base (.slice none 0 0) [] := ⟨rfl, .inl ⟨rfl, rfl⟩⟩

set_option maxHeartbeats 400000 in
theorem refnum_any (n : Int) (w : World) :
    Calls Tryd.prog 39 #[.slice none 0 0, .int .u32 n] w fun e w' => ∃ ao m c, e = .returned (.slice ao m c) ∧ Row w' w.heap.size (.slice ao m c) (be4 n) ∧ Kp [] w w' := by
  obtain ⟨cs, hcs⟩ : ∃ cs, cs = be4 n := ⟨_, rfl⟩
  have hl : cs.length = 4 := by rw [hcs]; rfl
  have hsl : Sl (w.alloc (.cells #[.int .u8 (n / 16777216 % 256), .int .u8 (n / 65536 % 256), .int .u8 (n / 256 % 256), .int .u8 (n % 256)] 5)) (.slice (some ⟨w.heap.size, 0, none⟩) 4 4) cs := by
    rw [hcs]; exact Sl.block (cs := be4 n) (t := 5) (heap_alloc_new w _) (by simp [be4, maxLen])
  rw [← hcs]
  clear hcs
  go_enter Tryd.func39, Tryd.ntmps39
  go_wp2_with (at_builtin; refine wpList_append_row rfl _ _ rfl w.heap.size (.slice none 0 0) [] rfl (row_nil _ _) _ cs rfl hsl (by simp; omega) (by simp) ?_; intro ao m c w1 r1 s1)
  go_ret
  exact ⟨ao, m, c, rfl, r1, ((Kp.refl [] w).alloc _).then s1.1 (by simp [Value.ownBlock])⟩

set_option maxRecDepth 100000 in
set_option maxHeartbeats 1000000 in
theorem refsecret_any (vb : Value) (bs : List Int) (key bit side : Int) (r : List Int) (hr : r = secP bs key bit side) (w : World) (hS : Sl w vb bs) (hB : Bs bs) (hl : bs.length ≤ 1000) :
    Calls Tryd.prog 17 #[vb, .int .i64 key, .int .i64 bit, .int .i64 side] w fun e w' => ∃ ao m c, e = .returned (.slice ao m c) ∧ Row w' w.heap.size (.slice ao m c) r ∧ Kp [] w w' := by
  have HB := hide hB
  have HS := hide hS
  have hbe : be4 (key % 4294967296) = be4 key := by
    unfold be4
    congr 1
    · omega
    · congr 1
      · omega
      · congr 1
        · omega
        · congr 1; omega
  have HBE := hide hbe
  have HR := hide hr
  obtain ⟨ab, cb, hvb, _⟩ := hS
  obtain ⟨nb, hnb⟩ : ∃ n, n = bs.length := ⟨_, rfl⟩
  rw [← hnb] at hvb
  subst hvb
  clear hr hnb hB hbe
  go_enter Tryd.func17, Tryd.ntmps17
  go_wp2_with fail
  refine (refnum_any _ _).mono ?_
  rintro ee w1 ⟨a1, m1, c1, rfl, R1, K1⟩
  rw [unhide HBE] at R1
  have HR1 := hide R1
  have HK1 := hide K1
  clear HBE R1 K1
  go_wp2_with fail
  obtain ⟨ob, hob⟩ : ∃ o : Obj, o = (.cells #[.int .u8 (bit % 256), .int .u8 (side % 256)] 5) := ⟨_, rfl⟩
  have hP : Sl (w1.alloc ob) (.slice (some ⟨w1.heap.size, 0, none⟩) 2 2) [bit % 256, side % 256] := by
    rw [hob]; exact Sl.block (cs := [bit % 256, side % 256]) (t := 5) (fr := (0, 0)) (heap_alloc_new w1 _) (by simp [maxLen])
  have hPB : Bs [bit % 256, side % 256] := by
    intro b hb
    simp only [List.mem_cons, List.not_mem_nil, or_false] at hb
    rcases hb with rfl | rfl <;> omega
  have Ka := (Kp.refl [] w1).alloc ob
  have HL := lists3 (((unhide HS).kept (unhide HK1) (by simp)).kept Ka (by simp)) (unhide HB) ((unhide HR1).sl.kept Ka (by simp)) (be4_bs key) hP hPB
  rw [show (w1.alloc ob).heap.size = w1.heap.size + 1 by simp] at HL
  have HK := hide ((unhide HK1).trans (Ka.alloc (.cells #[.slice ab nb cb, .slice a1 m1 c1, .slice (some ⟨w1.heap.size, 0, none⟩) 2 2] 22)))
  rw [← hob]
  refine (reftagged_any 10 _ _ r (by rw [unhide HR, cat3]; rfl) _ HL (by omega) (by omega) (by simp) ?_).mono ?_
  · intro x hx
    rcases (by simpa using hx : x = (Value.slice ab nb cb, bs) ∨ x = (Value.slice a1 m1 c1, be4 key) ∨ x = (Value.slice (some ⟨w1.heap.size, 0, none⟩) 2 2, [bit % 256, side % 256])) with rfl | rfl | rfl
    · simp; omega
    · simp [be4]
    · simp
  rintro ee w2 ⟨ao2, m2, c2, rfl, R2, K2⟩
  have HR2 := hide (row_new R2 (unhide HK))
  have HK2 := hide ((unhide HK).trans K2)
  clear HL HK HR hob R2 K2 Ka hP hPB
  go_wp2_with fail
  go_ret
  exact ⟨ao2, m2, c2, rfl, unhide HR2, unhide HK2⟩

set_option maxRecDepth 100000 in
set_option maxHeartbeats 1000000 in
theorem refshown_any (vb : Value) (bs : List Int) (key bit side : Int) (r : List Int) (hr : r = shnP bs key bit side) (w : World) (hS : Sl w vb bs) (hB : Bs bs) (hl : bs.length ≤ 1000) :
    Calls Tryd.prog 19 #[vb, .int .i64 key, .int .i64 bit, .int .i64 side] w fun e w' => ∃ ao m c, e = .returned (.slice ao m c) ∧ Row w' w.heap.size (.slice ao m c) r ∧ Kp [] w w' := by
  obtain ⟨q, hq⟩ : ∃ q, q = secP bs key bit side := ⟨_, rfl⟩
  have HC := hide (refsecret_any vb bs key bit side q hq w hS hB hl)
  have HQL : Hid (q.length = 32) := by rw [hq]; exact secP_len _ _ _ _
  have HQB : Hid (Bs q) := by rw [hq]; exact sha_bs _
  have HR : Hid (r = sha (11 :: q)) := by rw [hr, hq]; rfl
  obtain ⟨ab, cb, hvb, _⟩ := hS
  obtain ⟨nb, hnb⟩ : ∃ n, n = bs.length := ⟨_, rfl⟩
  rw [← hnb] at hvb
  subst hvb
  clear hr hnb hB hq
  go_enter Tryd.func19, Tryd.ntmps19
  go_wp2_with fail
  refine (unhide HC).mono ?_
  rintro ee w1 ⟨a1, m1, c1, rfl, R1, K1⟩
  have HL := hide (lists1 R1.sl (unhide HQB))
  have HK := hide (K1.trans ((Kp.refl [] w1).alloc (.cells #[.slice a1 m1 c1] 22)))
  clear HC R1 K1
  go_wp2_with fail
  refine (reftagged_any 11 _ _ r (by rw [unhide HR, cat1]) _ (unhide HL) (by omega) (by omega) (by simp) (by have := unhide HQL; simp; omega)).mono ?_
  rintro ee w2 ⟨ao2, m2, c2, rfl, R2, K2⟩
  have HR2 := hide (row_new R2 (unhide HK))
  have HK2 := hide ((unhide HK).trans K2)
  clear HL HK HR R2 K2
  go_wp2_with fail
  go_ret
  exact ⟨ao2, m2, c2, rfl, unhide HR2, unhide HK2⟩
end Go.Proofs.YtacfciimialobaaDoor
