/-
  The contract of the law package's helper 'known' over this seat's program: it answers true and changes nothing that was there.
-/
import Derived.Test.YthpekclkclpbpaaTexts
import Derived.Lib.SlBytesConst
namespace Go.Proofs.Ythpekclkclpbpaa
open Go.RowKit

theorem str_known : strOfNums ([] ++ be 258 4 0 ++ be 1 2 0 ++ [97]) = ⟨#[0, 0, 1, 2, 0, 1, 97]⟩ := by decide +kernel

theorem Sl.block {w : World} {b : Nat} {cs : List Int} {t : TypeId} {fr : Nat × Nat} (hb : w.heap[b]? = some (.cells (cs.map (Value.int .u8)).toArray t fr)) (hm : cs.length ≤ maxLen) : Sl w (.slice (some ⟨b, 0, none⟩) cs.length cs.length) cs := by
  refine ⟨some ⟨b, 0, none⟩, cs.length, rfl, Nat.le_refl _, hm, (fun h => by cases h), fun a ha j u hu => ?_⟩
  cases ha
  exact World.news_of_block hb j u (by simpa using hu)

set_option maxHeartbeats 1000000 in
theorem known_any (w : World) : Calls Try.prog 15 #[] w fun e w' => e = .returned (.bool true) ∧ Kp [] w w' := by
  have kc := fun (w : World) (C : Array Value) (n c : Nat) => Lib.run_convert_bytes_const (P := Try.prog) w 25 5 C n c Try.underlying25 Try.underlying5
  go_enter Try.func15, Try.ntmps15
  go_wp2_with fail
  refine (new_any _).mono ?_
  rintro e w1 ⟨rfl, rfl⟩
  go_wp2_with fail
  refine (num_any w.heap.size 258 _ [] _ (wr_new w) (by simp)).mono ?_
  rintro e w2 ⟨rfl, v2, a2, s2⟩
  go_wp2_with fail
  refine (bytes_ok w.heap.size v2 _ _ [97] _ (a2.kept ((Kp.refl [] w2).alloc _) (by simp) (by simp)) (Sl.block (cs := [97]) (t := 5) (heap_alloc_new w2 _) (by simp [maxLen])) ?_ (by simp [be_length]) (by simp)).mono ?_
  · intro W hW
    refine (Sl.block (cs := [97]) (t := 5) (heap_alloc_new w2 _) (by simp [maxLen])).kept hW (fun k hk hm => ?_)
    simp [Value.ownBlock] at hk
    have := a2.lt
    simp only [List.mem_cons, Option.mem_toList] at hm
    rcases hm with hm | hm
    · omega
    · have := (a2.2.lt k hm).2; omega
  rintro e w3 ⟨rfl, v3, a3, s3⟩
  go_wp2_with fail
  refine (read_any _ [1] _ (Sl.block (cs := [1]) (t := 5) (heap_alloc_new w3 _) (by simp [maxLen])) (by simp)).mono ?_
  rintro e w4 ⟨q, v4, rfl, hq, r4, o4, k4⟩
  have a4 : Wr w4 w.heap.size v3 _ := (a3.kept ((Kp.refl [] w3).alloc _) (by simp) (by simp)).kept k4 (by simp) (by simp)
  obtain ⟨bs, hbs⟩ : ∃ bs, bs = [] ++ be 258 4 0 ++ be 1 2 0 ++ [97] := ⟨_, rfl⟩
  have a5 : Wr w4 w.heap.size v3 bs := hbs ▸ a4
  have hbl : bs.length ≤ 1000 := by rw [hbs]; simp [be_length]
  have HS : Hid (strOfNums bs = ⟨#[0, 0, 1, 2, 0, 1, 97]⟩) := by rw [hbs]; exact str_known
  have K4 : Hid (Kp [] w w4 ∧ w.heap.size ≤ q) := by
    have b1 : Kp [] w (w.alloc (.cells #[.slice none 0 0] 55)) := (Kp.refl [] w).alloc _
    have b2 := b1.then s2.1 (by intro i hi; simp [Value.ownBlock] at hi; omega)
    have b3 := (b2.alloc (.cells #[.int .u8 97] 5 (1, 2))).then s3.1 (by
      intro i hi
      simp only [List.mem_cons, Option.mem_toList] at hi
      rcases hi with rfl | hi
      · exact .inr (Nat.le_refl _)
      · rcases s2.2 i hi with e | e
        · cases e
        · simp at e; exact .inr (by omega))
    exact ⟨(b3.alloc _).then k4 (by simp), Nat.le_trans (b3.alloc _).size hq⟩
  clear hbs a4 a3 a2 s2 s3
  go_wp2_with fail
  refine (done_any w.heap.size v3 _ _ a5 (by omega)).mono ?_
  rintro e w5 ⟨ao, c, rfl, r5, k5⟩
  have hcv := (Sl.of_owns r5).conv (P := Try.prog) 25 9 5 Try.underlying25 Try.underlying5 Try.underlying9
  rw [HS.out] at hcv
  have r6 := r4.kept k5 (by simp) (by simp)
  go_wp2_with fail
  refine (rnum_bad q v4 false [1] _ r6 (by simp)).mono ?_
  rintro e w6 ⟨rfl, r7, k6⟩
  go_wp2_with fail
  refine (bad_any q _ true [] _ r7).mono ?_
  rintro e w7 ⟨rfl, rfl⟩
  go_wp2_with fail
  refine (end_any q _ true [] _ r7).mono ?_
  rintro e w8 ⟨rfl, rfl⟩
  go_wp2_with fail
  go_ret
  exact ⟨rfl, (K4.out.1.then k5 (by simp)).then k6 (by intro i hi; simp only [List.mem_singleton] at hi; subst hi; exact .inr K4.out.2)⟩
end Go.Proofs.Ythpekclkclpbpaa
