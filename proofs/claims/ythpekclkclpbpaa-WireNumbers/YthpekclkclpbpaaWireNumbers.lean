/-
  The statement WireNumbersSaid: the law function WireNumbers, a closed sentence, returns true. Its conditions: none.
-/
import Derived.Test.YthpekclkclpbpaaWrite
import Derived.Test.YthpekclkclpbpaaStops
import Derived.Test.YthpekclkclpbpaaReads
import Derived.Test.YthpekclkclpbpaaRows
import Derived.ShutString
import Derived.ChangeOld
import Derived.Below
import Derived.Lib.SlBytesConst
namespace Go.Proofs.Ythpekclkclpbpaa.wireNumbers
open Go.ChangeShapes Go.WideShapes Go.ChangeAt Go.RowKit
open Go.Proofs.Ythpekclkclpbpaa
set_option linter.unusedVariables false

theorem own : ownKnob Try.prog.godebug = none := by kernel_rfl
theorem laidOut : laidOutB Try.prog = true := by kernel_rfl

set_option maxRecDepth 100000 in
set_option maxHeartbeats 4000000 in
theorem walk (w : World) :
    Calls Try.prog 3 #[] w fun e w' => e = .returned (.bool true) ∧ Below w.heap.size w w' := by
  go_enter Try.func3, Try.ntmps3
  go_wp2_with fail
  refine (new_abs _).mono ?_
  rintro e w1 ⟨p, rfl, a1, hp, k1⟩
  obtain ⟨w2, cs, hr2, s2, l2, b2, k2, z2⟩ := made_run w1 65536 (by omega)
  rw [show ((65536 : Nat) : Int) = 65536 from rfl] at hr2
  have L2 := hide l2
  clear l2
  go_wp2_with fail
  refine (bytes_no p _ cs _ s2 (by have := unhide L2; omega)).mono ?_
  rintro e w3 ⟨rfl, hw⟩
  subst w3
  have a2 := a1.kept k2 (by simp) (by simp)
  have K2 := k1.trans k2
  clear a1 k1 k2 hr2 s2 b2 L2 z2
  go_wp2_with fail
  refine (done_any p _ [] _ a2 (by simp)).mono ?_
  rintro e w3 ⟨ao3, c3, rfl, _, k3⟩
  have a3 := a2.kept k3 (by simp) (by simp)
  have K3 := K2.trans k3
  obtain ⟨w4, ds, hr4, s4, l4, b4, k4, z4⟩ := made_run w3 65535 (by omega)
  rw [show ((65535 : Nat) : Int) = 65535 from rfl] at hr4
  have a4 := a3.kept k4 (by simp) (by simp)
  have K4 := K3.trans k4
  have hp4 := a3.lt
  have L4 := hide l4
  have HK4 : Hid (∀ W, Kp (p :: (Value.slice none 0 0).ownBlock.toList) w4 W → Sl W (.slice (some ⟨w3.heap.size, 0, none⟩) 65535 65535) ds) := fun W hW => s4.kept hW (fun j hj hm => by simp [Value.ownBlock] at hj hm; omega)
  clear a2 a3 K2 K3 k3 l4 cs
  go_wp2_with fail
  refine (bytes_ok p _ [] _ ds _ a4 s4 (unhide HK4) (by have := unhide L4; simp; omega) (by have := unhide L4; omega)).mono ?_
  rintro e w5 ⟨rfl, v5, a5, s5⟩
  obtain ⟨B5, hB5⟩ : ∃ B5, B5 = [] ++ be (ds.length : Int) 2 0 ++ ds := ⟨_, rfl⟩
  have hl5 : B5.length = 65537 := by rw [hB5]; have := unhide L4; simp [be_length]; omega
  rw [← hB5] at a5
  have K5 : Kp [] w w5 := K4.then s5.1 (by intro i hi; simp [Value.ownBlock] at hi; omega)
  have hne5 : ((B5.length : Int) != 65537) = false := by rw [bne_eq_false_iff_eq, hl5]; rfl
  have L5 := hide hl5
  clear a4 K4 k4 hr4 s4 HK4 hB5 hl5 s5 b4 z4 L4 hp4
  go_wp2_with fail
  refine (done_any p _ B5 _ a5 (by have := unhide L5; omega)).mono ?_
  rintro e w6 ⟨ao6, c6, rfl, _, k6⟩
  have a6 := a5.kept k6 (by simp) (by simp)
  have K6 := K5.trans k6
  have hp6 := a6.lt
  have hv6 := a6.2.lt
  clear a5 K5 k6
  have HL6 : Hid (∀ W, Kp (p :: v5.ownBlock.toList) ((w6.alloc (.cells #[.int .u8 1] 5)).alloc (.cells #[.slice (some ⟨w6.heap.size, 0, none⟩) 1 1, .slice none 0 0] 25)) W → Lists W (.slice (some ⟨w6.heap.size + 1, 0, none⟩) 2 2) [(.slice (some ⟨w6.heap.size, 0, none⟩) 1 1, [1]), (.slice none 0 0, [])]) := fun W hW => by
    have hout : ∀ i, w6.heap.size ≤ i → i ∉ p :: v5.ownBlock.toList := fun i hi hm => by
      simp only [List.mem_cons, Option.mem_toList] at hm
      rcases hm with rfl | hm
      · omega
      · have := (hv6 i hm).2; omega
    refine lists_of_block (t := 25) (fr := (0, 0)) (l := [(.slice (some ⟨w6.heap.size, 0, none⟩) 1 1, [1]), (.slice none 0 0, [])]) (hW.heap ?_ (hout _ (by omega))) (by simp) ?_
    · have := heap_alloc_new (w6.alloc (.cells #[.int .u8 1] 5)) (.cells #[.slice (some ⟨w6.heap.size, 0, none⟩) 1 1, .slice none 0 0] 25)
      simpa using this
    · intro x hx
      simp only [List.mem_cons, List.not_mem_nil, or_false] at hx
      rcases hx with rfl | rfl
      · refine ⟨((Sl.block (cs := [1]) (t := 5) (heap_alloc_new w6 _) (by simp [maxLen])).kept ((Kp.refl [] _).alloc _) (by simp)).kept hW (fun i hi => hout i (by simp [Value.ownBlock] at hi; omega)), fun b hb => by simp only [List.mem_singleton] at hb; omega⟩
      · exact ⟨Sl.nil W, fun b hb => by cases hb⟩
  have a6' : Wr ((w6.alloc (.cells #[.int .u8 1] 5)).alloc (.cells #[.slice (some ⟨w6.heap.size, 0, none⟩) 1 1, .slice none 0 0] 25)) p v5 B5 := a6.kept (((Kp.refl [] _).alloc _).alloc _) (by simp) (by simp)
  have K6' : Kp [] w ((w6.alloc (.cells #[.int .u8 1] 5)).alloc (.cells #[.slice (some ⟨w6.heap.size, 0, none⟩) 1 1, .slice none 0 0] 25)) := (K6.alloc _).alloc _
  have hv5 : ∀ k, v5.ownBlock = some k → w.heap.size ≤ k := fun k hk => by have := (hv6 k hk).1; omega
  clear a6 K6
  go_wp2_with fail
  refine (each_stop p v5 B5 _ [(.slice (some ⟨w6.heap.size, 0, none⟩) 1 1, [1]), (.slice none 0 0, [])] 2 _ a6' (unhide HL6) (by simp) (by intro x hx; simp at hx; rcases hx with rfl | rfl <;> simp) (by intro h; simp at h) (by simp) (by have := unhide L5; omega)).mono ?_
  rintro e w7 ⟨rfl, v7, a7, s7⟩
  obtain ⟨B7, hB7⟩ : ∃ B7, B7 = B5 ++ encs (List.map (fun x => x.2) (List.take 2 [((.slice (some ⟨w6.heap.size, 0, none⟩) 1 1 : Value), ([1] : List Int)), (.slice none 0 0, [])])) := ⟨_, rfl⟩
  have hl7 : B7.length = 65542 := by rw [hB7]; have := unhide L5; simp [encs, be_length]; omega
  rw [← hB7] at a7
  have K7 : Kp [] w w7 := K6'.then s7.1 (by
    intro i hi
    simp only [List.mem_cons, Option.mem_toList] at hi
    rcases hi with rfl | hi
    · exact .inr hp
    · exact .inr (hv5 i hi))
  have L7 := hide hl7
  clear a6' K6' HL6 hB7 hl7 s7 hv6 hv5 hne5
  have hp7 := a7.lt
  have hv7 := a7.2.lt
  obtain ⟨w8, es, hr8, s8, l8, b8, k8, z8⟩ := made_run (w7.alloc (.cells #[.int .u8 2] 5)) 65536 (by omega)
  rw [show ((65536 : Nat) : Int) = 65536 from rfl] at hr8
  have hsz8 : (w7.alloc (.cells #[.int .u8 2] 5)).heap.size = w7.heap.size + 1 := by simp
  rw [hsz8] at hr8 s8 z8
  have L8 := hide l8
  have k9 : Kp [] (w7.alloc (.cells #[.int .u8 2] 5)) ((w8.alloc (.cells #[.int .u8 3] 5)).alloc (.cells #[.slice (some ⟨w7.heap.size, 0, none⟩) 1 1, .slice (some ⟨w7.heap.size + 1, 0, none⟩) 65536 65536, .slice (some ⟨w8.heap.size, 0, none⟩) 1 1] 25)) := (k8.alloc _).alloc _
  have s2w : Sl ((w8.alloc (.cells #[.int .u8 3] 5)).alloc (.cells #[.slice (some ⟨w7.heap.size, 0, none⟩) 1 1, .slice (some ⟨w7.heap.size + 1, 0, none⟩) 65536 65536, .slice (some ⟨w8.heap.size, 0, none⟩) 1 1] 25)) (.slice (some ⟨w7.heap.size, 0, none⟩) 1 1) [2] := (Sl.block (cs := [2]) (t := 5) (heap_alloc_new w7 _) (by simp [maxLen])).kept k9 (by simp)
  have s8w : Sl ((w8.alloc (.cells #[.int .u8 3] 5)).alloc (.cells #[.slice (some ⟨w7.heap.size, 0, none⟩) 1 1, .slice (some ⟨w7.heap.size + 1, 0, none⟩) 65536 65536, .slice (some ⟨w8.heap.size, 0, none⟩) 1 1] 25)) (.slice (some ⟨w7.heap.size + 1, 0, none⟩) 65536 65536) es := s8.kept (((Kp.refl [] w8).alloc _).alloc _) (by simp)
  have s3w : Sl ((w8.alloc (.cells #[.int .u8 3] 5)).alloc (.cells #[.slice (some ⟨w7.heap.size, 0, none⟩) 1 1, .slice (some ⟨w7.heap.size + 1, 0, none⟩) 65536 65536, .slice (some ⟨w8.heap.size, 0, none⟩) 1 1] 25)) (.slice (some ⟨w8.heap.size, 0, none⟩) 1 1) [3] := (Sl.block (cs := [3]) (t := 5) (heap_alloc_new w8 _) (by simp [maxLen])).kept ((Kp.refl [] _).alloc _) (by simp)
  have a9 : Wr ((w8.alloc (.cells #[.int .u8 3] 5)).alloc (.cells #[.slice (some ⟨w7.heap.size, 0, none⟩) 1 1, .slice (some ⟨w7.heap.size + 1, 0, none⟩) 65536 65536, .slice (some ⟨w8.heap.size, 0, none⟩) 1 1] 25)) p v7 B7 := (a7.kept ((Kp.refl [] w7).alloc _) (by simp) (by simp)).kept k9 (by simp) (by simp)
  have K9 : Kp [] w ((w8.alloc (.cells #[.int .u8 3] 5)).alloc (.cells #[.slice (some ⟨w7.heap.size, 0, none⟩) 1 1, .slice (some ⟨w7.heap.size + 1, 0, none⟩) 65536 65536, .slice (some ⟨w8.heap.size, 0, none⟩) 1 1] 25)) := (K7.alloc _).trans k9
  have HL9 : Hid (∀ W, Kp (p :: v7.ownBlock.toList) ((w8.alloc (.cells #[.int .u8 3] 5)).alloc (.cells #[.slice (some ⟨w7.heap.size, 0, none⟩) 1 1, .slice (some ⟨w7.heap.size + 1, 0, none⟩) 65536 65536, .slice (some ⟨w8.heap.size, 0, none⟩) 1 1] 25)) W → Lists W (.slice (some ⟨w8.heap.size + 1, 0, none⟩) 3 3) [(.slice (some ⟨w7.heap.size, 0, none⟩) 1 1, [2]), (.slice (some ⟨w7.heap.size + 1, 0, none⟩) 65536 65536, es), (.slice (some ⟨w8.heap.size, 0, none⟩) 1 1, [3])]) := fun W hW => by
    have hsz := z8
    have hout : ∀ i, w7.heap.size ≤ i → i ∉ p :: v7.ownBlock.toList := fun i hi hm => by
      simp only [List.mem_cons, Option.mem_toList] at hm
      rcases hm with rfl | hm
      · omega
      · have := (hv7 i hm).2; omega
    refine lists_of_block (t := 25) (fr := (0, 0)) (l := [(.slice (some ⟨w7.heap.size, 0, none⟩) 1 1, [2]), (.slice (some ⟨w7.heap.size + 1, 0, none⟩) 65536 65536, es), (.slice (some ⟨w8.heap.size, 0, none⟩) 1 1, [3])]) (hW.heap ?_ (hout _ (by omega))) (by simp) ?_
    · have := heap_alloc_new (w8.alloc (.cells #[.int .u8 3] 5)) (.cells #[.slice (some ⟨w7.heap.size, 0, none⟩) 1 1, .slice (some ⟨w7.heap.size + 1, 0, none⟩) 65536 65536, .slice (some ⟨w8.heap.size, 0, none⟩) 1 1] 25)
      simpa using this
    · intro x hx
      simp only [List.mem_cons, List.not_mem_nil, or_false] at hx
      rcases hx with rfl | rfl | rfl
      · exact ⟨s2w.kept hW (fun i hi => hout i (by simp [Value.ownBlock] at hi; omega)), fun b hb => by simp only [List.mem_singleton] at hb; omega⟩
      · exact ⟨s8w.kept hW (fun i hi => hout i (by simp [Value.ownBlock] at hi; omega)), b8⟩
      · exact ⟨s3w.kept hW (fun i hi => hout i (by simp [Value.ownBlock] at hi; omega)), fun b hb => by simp only [List.mem_singleton] at hb; omega⟩
  have hv9 : ∀ k, v7.ownBlock = some k → w.heap.size ≤ k := fun k hk => by have := (hv7 k hk).1; omega
  clear s2w s8w s3w a7 K7 k9 k8 s8 b8 l8
  go_wp2_with fail
  refine (each_stop p v7 B7 _ [(.slice (some ⟨w7.heap.size, 0, none⟩) 1 1, [2]), (.slice (some ⟨w7.heap.size + 1, 0, none⟩) 65536 65536, es), (.slice (some ⟨w8.heap.size, 0, none⟩) 1 1, [3])] 1 _ a9 (unhide HL9) (by simp) (by intro x hx; simp at hx; rw [hx]; simp) (by intro h; simp; have := unhide L8; omega) (by simp) (by have := unhide L7; omega)).mono ?_
  rintro e wA ⟨rfl, vA, aA, sA⟩
  obtain ⟨BA, hBA⟩ : ∃ BA, BA = B7 ++ encs (List.map (fun x => x.2) (List.take 1 ([(.slice (some ⟨w7.heap.size, 0, none⟩) 1 1, [2]), (.slice (some ⟨w7.heap.size + 1, 0, none⟩) 65536 65536, es), (.slice (some ⟨w8.heap.size, 0, none⟩) 1 1, [3])] : List (Value × List Int)))) := ⟨_, rfl⟩
  have hlA : BA.length = 65545 := by rw [hBA]; have := unhide L7; simp [encs, be_length]; omega
  rw [← hBA] at aA
  have KA : Kp [] w wA := K9.then sA.1 (by
    intro i hi
    simp only [List.mem_cons, Option.mem_toList] at hi
    rcases hi with rfl | hi
    · exact .inr hp
    · exact .inr (hv9 i hi))
  have hneA : ((BA.length : Int) != 65545) = false := by rw [bne_eq_false_iff_eq, hlA]; rfl
  have LA := hide hlA
  clear a9 K9 HL9 hBA hlA sA hv7 hv9 hr8 z8 hsz8
  go_wp2_with fail
  refine (done_any p _ BA _ aA (by have := unhide LA; omega)).mono ?_
  rintro e wB ⟨aoB, cB, rfl, _, kB⟩
  have KB := KA.trans kB
  clear aA KA kB
  have kc := fun (w : World) (C : Array Value) (n c : Nat) => Lib.run_convert_bytes_const (P := Try.prog) w 25 5 C n c Try.underlying25 Try.underlying5
  have kc2 : (convert 25 25 (.slice (some ⟨wB.heap.size + 1, 0, none⟩) 2 2)).run Try.prog ((wB.alloc (.cells #[.int .u8 97, .int .u8 98, .int .u8 99] 5 (3, 4))).alloc (.cells #[.int .u8 120, .int .u8 121] 5)) = .ok (.slice (some ⟨wB.heap.size + 1, 0, none⟩) 2 2) ((wB.alloc (.cells #[.int .u8 97, .int .u8 98, .int .u8 99] 5 (3, 4))).alloc (.cells #[.int .u8 120, .int .u8 121] 5 (2, 3))) := by
    have := Lib.run_convert_bytes_const (P := Try.prog) (wB.alloc (.cells #[.int .u8 97, .int .u8 98, .int .u8 99] 5 (3, 4))) 25 5 #[.int .u8 120, .int .u8 121] 2 2 Try.underlying25 Try.underlying5
    simpa using this
  have HAC : Hid (Asks (((wB.alloc (.cells #[.int .u8 97, .int .u8 98, .int .u8 99] 5 (3, 4))).alloc (.cells #[.int .u8 120, .int .u8 121] 5 (2, 3))).alloc (.cells #[.int .i64 1, .int .i64 0, .int .u32 7, .slice none 0 0, .int .i64 3, .int .i64 0, .int .u32 0, .slice (some ⟨wB.heap.size, 0, none⟩) 3 3, .int .i64 2, .int .i64 0, .int .u32 4294967294, .slice none 0 0, .int .i64 3, .int .i64 0, .int .u32 0, .slice none 0 0, .int .i64 4, .int .i64 0, .int .u32 0, .slice (some ⟨wB.heap.size + 1, 0, none⟩) 2 2] 33)) (.slice (some ⟨wB.heap.size + 1 + 1, 0, none⟩) 5 5) [⟨1, 0, 7, .slice none 0 0, []⟩, ⟨3, 0, 0, .slice (some ⟨wB.heap.size, 0, none⟩) 3 3, [97, 98, 99]⟩, ⟨2, 0, 4294967294, .slice none 0 0, []⟩, ⟨3, 0, 0, .slice none 0 0, []⟩, ⟨4, 0, 0, .slice (some ⟨wB.heap.size + 1, 0, none⟩) 2 2, [120, 121]⟩]) := by
    refine asks_of_block (t := 33) (fr := (0, 0)) (l := [⟨1, 0, 7, .slice none 0 0, []⟩, ⟨3, 0, 0, .slice (some ⟨wB.heap.size, 0, none⟩) 3 3, [97, 98, 99]⟩, ⟨2, 0, 4294967294, .slice none 0 0, []⟩, ⟨3, 0, 0, .slice none 0 0, []⟩, ⟨4, 0, 0, .slice (some ⟨wB.heap.size + 1, 0, none⟩) 2 2, [120, 121]⟩]) ?_ (by simp) ?_
    · have := heap_alloc_new ((wB.alloc (.cells #[.int .u8 97, .int .u8 98, .int .u8 99] 5 (3, 4))).alloc (.cells #[.int .u8 120, .int .u8 121] 5 (2, 3))) (.cells #[.int .i64 1, .int .i64 0, .int .u32 7, .slice none 0 0, .int .i64 3, .int .i64 0, .int .u32 0, .slice (some ⟨wB.heap.size, 0, none⟩) 3 3, .int .i64 2, .int .i64 0, .int .u32 4294967294, .slice none 0 0, .int .i64 3, .int .i64 0, .int .u32 0, .slice none 0 0, .int .i64 4, .int .i64 0, .int .u32 0, .slice (some ⟨wB.heap.size + 1, 0, none⟩) 2 2] 33)
      simpa [cells4] using this
    · have n1 : Sl (((wB.alloc (.cells #[.int .u8 97, .int .u8 98, .int .u8 99] 5 (3, 4))).alloc (.cells #[.int .u8 120, .int .u8 121] 5 (2, 3))).alloc (.cells #[.int .i64 1, .int .i64 0, .int .u32 7, .slice none 0 0, .int .i64 3, .int .i64 0, .int .u32 0, .slice (some ⟨wB.heap.size, 0, none⟩) 3 3, .int .i64 2, .int .i64 0, .int .u32 4294967294, .slice none 0 0, .int .i64 3, .int .i64 0, .int .u32 0, .slice none 0 0, .int .i64 4, .int .i64 0, .int .u32 0, .slice (some ⟨wB.heap.size + 1, 0, none⟩) 2 2] 33)) (.slice (some ⟨wB.heap.size, 0, none⟩) 3 3) [97, 98, 99] := (Sl.block (cs := [97, 98, 99]) (t := 5) (fr := (3, 4)) (heap_alloc_new wB _) (by simp [maxLen])).kept (((Kp.refl [] _).alloc _).alloc _) (by simp)
      have n2 : Sl (((wB.alloc (.cells #[.int .u8 97, .int .u8 98, .int .u8 99] 5 (3, 4))).alloc (.cells #[.int .u8 120, .int .u8 121] 5 (2, 3))).alloc (.cells #[.int .i64 1, .int .i64 0, .int .u32 7, .slice none 0 0, .int .i64 3, .int .i64 0, .int .u32 0, .slice (some ⟨wB.heap.size, 0, none⟩) 3 3, .int .i64 2, .int .i64 0, .int .u32 4294967294, .slice none 0 0, .int .i64 3, .int .i64 0, .int .u32 0, .slice none 0 0, .int .i64 4, .int .i64 0, .int .u32 0, .slice (some ⟨wB.heap.size + 1, 0, none⟩) 2 2] 33)) (.slice (some ⟨wB.heap.size + 1, 0, none⟩) 2 2) [120, 121] := by
        have := Sl.block (cs := [120, 121]) (t := 5) (fr := (2, 3)) (heap_alloc_new (wB.alloc (.cells #[.int .u8 97, .int .u8 98, .int .u8 99] 5 (3, 4))) _) (by simp [maxLen])
        have := this.kept ((Kp.refl [] _).alloc (.cells #[.int .i64 1, .int .i64 0, .int .u32 7, .slice none 0 0, .int .i64 3, .int .i64 0, .int .u32 0, .slice (some ⟨wB.heap.size, 0, none⟩) 3 3, .int .i64 2, .int .i64 0, .int .u32 4294967294, .slice none 0 0, .int .i64 3, .int .i64 0, .int .u32 0, .slice none 0 0, .int .i64 4, .int .i64 0, .int .u32 0, .slice (some ⟨wB.heap.size + 1, 0, none⟩) 2 2] 33)) (by simp)
        simpa using this
      intro x hx
      simp only [List.mem_cons, List.not_mem_nil, or_false] at hx
      rcases hx with rfl | rfl | rfl | rfl | rfl
      · exact ⟨Sl.nil _, (fun b hb => by cases hb), by simp, by simp⟩
      · exact ⟨n1, (fun b hb => by simp at hb; omega), by simp, by simp⟩
      · exact ⟨Sl.nil _, (fun b hb => by cases hb), by simp, by simp⟩
      · exact ⟨Sl.nil _, (fun b hb => by cases hb), by simp, by simp⟩
      · exact ⟨n2, (fun b hb => by simp at hb; omega), by simp, by simp⟩
  have KC : Hid (Kp [] w (((wB.alloc (.cells #[.int .u8 97, .int .u8 98, .int .u8 99] 5 (3, 4))).alloc (.cells #[.int .u8 120, .int .u8 121] 5 (2, 3))).alloc (.cells #[.int .i64 1, .int .i64 0, .int .u32 7, .slice none 0 0, .int .i64 3, .int .i64 0, .int .u32 0, .slice (some ⟨wB.heap.size, 0, none⟩) 3 3, .int .i64 2, .int .i64 0, .int .u32 4294967294, .slice none 0 0, .int .i64 3, .int .i64 0, .int .u32 0, .slice none 0 0, .int .i64 4, .int .i64 0, .int .u32 0, .slice (some ⟨wB.heap.size + 1, 0, none⟩) 2 2] 33))) := ((KB.alloc _).alloc _).alloc _
  go_wp2_with fail
  refine (write_any _ [⟨1, 0, 7, .slice none 0 0, []⟩, ⟨3, 0, 0, .slice (some ⟨wB.heap.size, 0, none⟩) 3 3, [97, 98, 99]⟩, ⟨2, 0, 4294967294, .slice none 0 0, []⟩, ⟨3, 0, 0, .slice none 0 0, []⟩, ⟨4, 0, 0, .slice (some ⟨wB.heap.size + 1, 0, none⟩) 2 2, [120, 121]⟩] _ (unhide HAC)).mono ?_
  rintro e wD ⟨ab, mb, cb, rfl, rD, kD⟩
  have KD := (unhide KC).trans kD
  clear HAC KC KB kc kc2
  obtain ⟨B, hB⟩ : ∃ B, B = wrs (List.take 40 [⟨1, 0, 7, .slice none 0 0, []⟩, ⟨3, 0, 0, .slice (some ⟨wB.heap.size, 0, none⟩) 3 3, [97, 98, 99]⟩, ⟨2, 0, 4294967294, .slice none 0 0, []⟩, ⟨3, 0, 0, .slice none 0 0, []⟩, ⟨4, 0, 0, .slice (some ⟨wB.heap.size + 1, 0, none⟩) 2 2, [120, 121]⟩]) := ⟨_, rfl⟩
  rw [← hB] at rD
  have hBl : B.length ≤ 12080 := by have := wrs_len [⟨1, 0, 7, .slice none 0 0, []⟩, ⟨3, 0, 0, .slice (some ⟨wB.heap.size, 0, none⟩) 3 3, [97, 98, 99]⟩, ⟨2, 0, 4294967294, .slice none 0 0, []⟩, ⟨3, 0, 0, .slice none 0 0, []⟩, ⟨4, 0, 0, .slice (some ⟨wB.heap.size + 1, 0, none⟩) 2 2, [120, 121]⟩] 40; rw [hB]; omega
  have hBB : Bs B := by
    rw [hB]
    intro b hb
    simp [wrs, wr1, be, byteAt, List.range_succ] at hb
    omega
  have hmb := rD.len
  subst hmb
  have sD := rD.sl
  have oD := rD.lt
  have hcb : B.length ≤ cb := by obtain ⟨_, _, e, h, _⟩ := sD; cases e; exact h
  clear hB rD kD
  go_wp2_with fail
  go_loopw [4] (fun j wr => ∃ k : Nat, k ≤ B.length + 1 ∧ j = .int .i64 k ∧ Kp [] wD wr) (fun j _ => B.length + 1 - (intOf j).toNat)
  case atStart => exact ⟨0, by omega, rfl, Kp.refl _ _⟩
  case round =>
    obtain ⟨k, hk, rfl, Ko⟩ := hrel
    by_cases hlt : k ≤ B.length
    · have hlt3 : (k : Int) ≤ (B.length : Int) := by omega
      have hkc : (k : Int) ≤ (cb : Int) := by omega
      go_wp2_with fail
      go_loopw [5] (fun j wr => ∃ t : Nat, t ≤ 6 ∧ j = .int .i64 ((t : Int) - 1) ∧ Kp [] wD wr) (fun j _ => (5 - intOf j).toNat)
      case atStart => exact ⟨0, by omega, rfl, Ko⟩
      case round =>
        obtain ⟨t, ht, rfl, Ki⟩ := hrel
        clear Ko
        by_cases hlt4 : t < 6
        · obtain ⟨mo, hmo⟩ : ∃ mo : Int, mo = (t : Int) - 1 := ⟨_, rfl⟩
          have hmo5 : mo < 5 := by omega
          rw [← hmo]
          have hmob : -1 ≤ mo := by omega
          have HMO := hide hmo
          have HA : Hid (Asks (wr.alloc (.cells #[.int .i64 1, .int .i64 0, .int .u32 0, .slice none 0 0, .int .i64 3, .int .i64 mo, .int .u32 0, .slice none 0 0, .int .i64 2, .int .i64 0, .int .u32 0, .slice none 0 0, .int .i64 3, .int .i64 mo, .int .u32 0, .slice none 0 0, .int .i64 4, .int .i64 mo, .int .u32 0, .slice none 0 0, .int .i64 1, .int .i64 0, .int .u32 0, .slice none 0 0] 33)) (.slice (some ⟨wr.heap.size, 0, none⟩) 6 6) [⟨1, 0, 0, .slice none 0 0, []⟩, ⟨3, mo, 0, .slice none 0 0, []⟩, ⟨2, 0, 0, .slice none 0 0, []⟩, ⟨3, mo, 0, .slice none 0 0, []⟩, ⟨4, mo, 0, .slice none 0 0, []⟩, ⟨1, 0, 0, .slice none 0 0, []⟩]) := by
            refine asks_of_block (t := 33) (fr := (0, 0)) (l := [⟨1, 0, 0, .slice none 0 0, []⟩, ⟨3, mo, 0, .slice none 0 0, []⟩, ⟨2, 0, 0, .slice none 0 0, []⟩, ⟨3, mo, 0, .slice none 0 0, []⟩, ⟨4, mo, 0, .slice none 0 0, []⟩, ⟨1, 0, 0, .slice none 0 0, []⟩]) ?_ (by simp) ?_
            · have := heap_alloc_new wr (.cells #[.int .i64 1, .int .i64 0, .int .u32 0, .slice none 0 0, .int .i64 3, .int .i64 mo, .int .u32 0, .slice none 0 0, .int .i64 2, .int .i64 0, .int .u32 0, .slice none 0 0, .int .i64 3, .int .i64 mo, .int .u32 0, .slice none 0 0, .int .i64 4, .int .i64 mo, .int .u32 0, .slice none 0 0, .int .i64 1, .int .i64 0, .int .u32 0, .slice none 0 0] 33)
              simpa [cells4] using this
            · intro x hx
              simp only [List.mem_cons, List.not_mem_nil, or_false] at hx
              rcases hx with rfl | rfl | rfl | rfl | rfl | rfl <;> exact ⟨Sl.nil _, (fun b hb => by cases hb), by simp, by refine ⟨?_, ?_⟩ <;> simp <;> omega⟩
          have sK : Sl (wr.alloc (.cells #[.int .i64 1, .int .i64 0, .int .u32 0, .slice none 0 0, .int .i64 3, .int .i64 mo, .int .u32 0, .slice none 0 0, .int .i64 2, .int .i64 0, .int .u32 0, .slice none 0 0, .int .i64 3, .int .i64 mo, .int .u32 0, .slice none 0 0, .int .i64 4, .int .i64 mo, .int .u32 0, .slice none 0 0, .int .i64 1, .int .i64 0, .int .u32 0, .slice none 0 0] 33)) (.slice ab k cb) (B.take k) := (sD.take k hlt).kept (Ki.alloc _) (by simp)
          have hown : ∀ i, (Value.slice ab k cb).ownBlock = some i → i < (wr.alloc (.cells #[.int .i64 1, .int .i64 0, .int .u32 0, .slice none 0 0, .int .i64 3, .int .i64 mo, .int .u32 0, .slice none 0 0, .int .i64 2, .int .i64 0, .int .u32 0, .slice none 0 0, .int .i64 3, .int .i64 mo, .int .u32 0, .slice none 0 0, .int .i64 4, .int .i64 mo, .int .u32 0, .slice none 0 0, .int .i64 1, .int .i64 0, .int .u32 0, .slice none 0 0] 33)).heap.size := fun i hi => by
            have h1 : i < wD.heap.size := by
              cases ab with
              | none => cases hi
              | some a => exact (oD i hi).2
            have := Ki.size
            simp; omega
          have HS := hide sK
          have HO := hide hown
          clear hmo sK hown
          go_wp2_with fail
          refine (reads_any _ (B.take k) _ [⟨1, 0, 0, .slice none 0 0, []⟩, ⟨3, mo, 0, .slice none 0 0, []⟩, ⟨2, 0, 0, .slice none 0 0, []⟩, ⟨3, mo, 0, .slice none 0 0, []⟩, ⟨4, mo, 0, .slice none 0 0, []⟩, ⟨1, 0, 0, .slice none 0 0, []⟩] _ (unhide HS) (hBB.take k) (by rw [List.length_take]; omega) (unhide HO) (unhide HA)).mono ?_
          rintro e wE ⟨rfl, kE⟩
          have KE := (Ki.alloc _).trans kE
          clear HS HO HA Ki kE
          go_wp2_with fail
          go_roundw
          case rel => exact ⟨t + 1, by omega, by rw [unhide HMO]; go_num, KE⟩
          case measure => simp [intOf]; omega
        · obtain rfl : t = 6 := by omega
          go_wp2_with fail
          go_roundw
          case rel => exact ⟨k + 1, by omega, by go_num, Ki⟩
          case measure => simp [intOf]; omega
    · have hlt3 : ¬ (k : Int) ≤ (B.length : Int) := by omega
      go_wp2_with fail
      refine (known_any _).mono ?_
      rintro e wE ⟨rfl, kE⟩
      go_wp2_with fail
      go_ret
      exact ⟨rfl, ((KD.trans Ko).trans kE).below (Nat.le_refl _) (by simp)⟩

set_option maxRecDepth 100000 in
theorem lifted (os : Os) (started : os.Started) (H : Type) (enc : TypeId × Value → H) :
    ReturnsInHanded {} Try.checked os 3 .any (Rows.wireNumbersSpec.pre6 enc Try.prog Try.f3 Rows.wireNumbersRow.domain false) (Rows.wireNumbersSpec.post enc Try.prog Try.f3 false true false false) := by
  refine returnsInHanded_of_change (C := Try.checked) own started (by kernel_rfl) Try.func3
    (ChangeSpec.witness6 (enc := enc) (C := Try.checked) false ⟨#[], #[], []⟩ 8 (by kernel_rfl) (by kernel_rfl) (by kernel_rfl) (by kernel_rfl)) ?_
  intro W base args ds gs before hval0 hW hcnd _
  have hval : ∀ (j : Nat) t v, Try.f3.params[j]? = some t → args[j]? = some v → Value.okWide Try.prog W .any base t v := hval0
  have hW' := hW
  obtain ⟨p, q, hA0, hV, rfl, hfz, hnd⟩ := hW
  have hA : DataW.TrodAll enc Try.prog W 0 (fun _ => true) true Try.f3.params.toList args.toList ds p := hA0
  rw [Try.params3] at hA hval
  obtain ⟨hargs, rfl, rfl⟩ := trodAll_nil hA
  obtain rfl : args = #[] := by cases args; simp_all
  obtain ⟨rfl, rfl⟩ := trodVars_none hV
  clear hA0 hval0
  refine (walk  W ).mono fun e W' ⟨he, bel⟩ => ?_
  subst he
  exact ⟨_, rfl, _, _, _, [], _, [], hW', trodAll_mk1 (shut_bool Try.underlying4 _), trodAll_mk0, rfl, bel.frame _, fun h => by cases h⟩

theorem over : Rows.wireNumbersRow.holds Try.pinned (OpenSpec.ofChange Rows.wireNumbersSpec) :=
  OpenClaim.holds_of_wide 3 Try.f3 rfl rfl rfl rfl rfl rfl rfl ⟨rfl, rfl, rfl, rfl, rfl⟩ rfl rfl rfl rfl rfl (by kernel_rfl) Try.func3 (by kernel_rfl)
    (of_decide_eq_true (by kernel_rfl)) (by unfold Func.isWrapper; first | (rw [if_pos (by decide +kernel)]; kernel_rfl) | (rw [if_neg (by decide +kernel)]; exact ⟨rfl, rfl⟩))
    (fun os started H enc _ => lifted os started H enc)
end Go.Proofs.Ythpekclkclpbpaa.wireNumbers

namespace Go.Proofs.Ythpekclkclpbpaa
/-- The given statement. -/
theorem WireNumbers_holds : Rows.WireNumbersSaid := wireNumbers.over
#print axioms WireNumbers_holds
end Go.Proofs.Ythpekclkclpbpaa
