/-
  The statement HashNumbersCardSaid: the law function HashNumbers returns true; the table hash.roundWords starts as the program's text lays it (tied). No other condition.
-/
import Derived.Test.YthmbeamphahlmaaDoorHAux
import Derived.Test.YthmbeamphahlmaaDoorHRefTag
import Derived.Test.YthmbeamphahlmaaDoorHLawHex
import Derived.Test.YthmbeamphahlmaaDoorRGrowLs
import Derived.Test.YthmbeamphahlmaaDoorTie
import Derived.Test.YthmbeamphahlmaaDoorCards
import Derived.SevenTiedAt
import Derived.Laws.OwnMore
namespace Go.Proofs.YthmbeamphahlmaaDoor.hashNumbers
open Go.ChangeShapes Go.WideShapes Go.ChangeAt Go.RowKit
open Go.Proofs.YthmbeamphahlmaaDoor
set_option linter.unusedVariables false

theorem made_len {w : World} {base g n : Nat} {xs : List Value} (h : w.ownsRow base 5 1 (.slice (some ⟨g, 0, none⟩) n n) n xs) : xs.length = n := by have := h.1; omega
/-- The byte at place i of the text of n bytes. -/
def at_ (n i : Nat) : Int := ((i : Int) * (n : Int)) % 256
def text (n : Nat) : List Int := (List.range n).map (at_ n)
theorem text_bs (n : Nat) : Bs (text n) := by
  intro b hb
  obtain ⟨i, _, rfl⟩ := List.mem_map.1 hb
  unfold at_
  omega

set_option maxRecDepth 100000 in
set_option maxHeartbeats 4000000 in
theorem walk (w : World) (hG : Gl w) :
    Calls Tryd.prog 3 #[] w fun e w' => e = .returned (.bool true) ∧ Below w.heap.size w w' := by
  obtain ⟨i0, hi0, hz0, hz1, hz2⟩ := info_parts Tryd.info5
  have HG := hide hG
  have hpos := hG.pos
  clear hG
  go_enter Tryd.func3, Tryd.ntmps3
  go_wp2_with fail
  go_loopw [1] (fun v wr => ∃ n : Nat, n ≤ 200 ∧ v = .int .i64 n ∧ Kp [] w wr) (fun v _ => 200 - (intOf v).toNat)
  case atStart => exact ⟨0, by omega, rfl, Kp.refl _ _⟩
  case round =>
    obtain ⟨n, hn, rfl, K0⟩ := hrel
    by_cases hlt : n < 200
    · have hlt2 : (n : Int) < 200 := by omega
      obtain ⟨wo, hwo⟩ : ∃ wo, wo = wr := ⟨_, rfl⟩
      subst hwo
      have HK0 := hide K0
      clear K0
      go_wp2_with (at_make; refine wpList_make_full _ rfl _ _ 22 rfl wo.heap.size 5 i0 (.int .u8 0) 1 Tryd.underlying22 hi0 hz0 hz1 .i64 .i64 _ _ n rfl rfl rfl rfl (by rw [hz2]; omega) (by unfold maxLen; omega) (Nat.le_refl _) ?_; intro w1 o1 g1)
      have K1 : Kp [] wo w1 := (Kp.refl [] wo).grown g1 (by intro k hk; cases hk)
      have hO := hide o1
      have hK := hide K1
      clear o1 g1 K1
      go_loopw [3] (fun j wr => ∃ k : Nat, k ≤ n ∧ j = .int .i64 k ∧ Kp [] wo wr ∧ ∃ ys : List Value, wr.ownsRow wo.heap.size 5 1 (.slice (some ⟨wo.heap.size, 0, none⟩) n n) n ys ∧ ys.take k = ((List.range k).map (at_ n)).map (Value.int .u8)) (fun j _ => n - (intOf j).toNat)
      case atStart => exact ⟨0, by omega, rfl, unhide hK, _, unhide hO, by simp⟩
      case round =>
        obtain ⟨k, hk, rfl, Kr, ys, hr, ht⟩ := hrel
        have hyl : ys.length = n := made_len hr
        clear hO hK
        by_cases hlt3 : k < n
        · have hlt4 : (k : Int) < (n : Int) := by omega
          have hcj : wr.cell? ⟨wo.heap.size, k, none⟩ = some ys[k] := by
            rw [hr.cellAt k (by omega)]; simp [List.getElem?_eq_getElem (show k < ys.length by omega)]
          have hfj := hr.frozenAt k
          have hkn : 0 ≤ (k : Int) * (n : Int) ∧ (k : Int) * (n : Int) ≤ 40000 := by
            have := Nat.mul_le_mul (show k ≤ 200 by omega) (show n ≤ 200 by omega)
            have e : (k : Int) * (n : Int) = ((k * n : Nat) : Int) := by simp
            rw [e]; omega
          obtain ⟨hkn0, hkn1⟩ := hkn
          obtain ⟨x, hx⟩ : ∃ x, x = at_ n k := ⟨_, rfl⟩
          have HX : Hid (x = (k : Int) * (n : Int) % 256) := hx
          have HZ : Hid ((wr.setCell ⟨wo.heap.size, k, none⟩ (.int .u8 ((k : Int) * (n : Int) % 256))).ownsRow wo.heap.size 5 1 (.slice (some ⟨wo.heap.size, 0, none⟩) n n) n (ys.set k (.int .u8 x)) ∧ Kp [] wo (wr.setCell ⟨wo.heap.size, k, none⟩ (.int .u8 ((k : Int) * (n : Int) % 256))) ∧ (ys.set k (.int .u8 x)).take (k + 1) = ((List.range (k + 1)).map (at_ n)).map (Value.int .u8)) := by
            rw [← show at_ n k = (k : Int) * (n : Int) % 256 from rfl, ← hx]
            refine ⟨(hr.stored k (.int .u8 x)).1, Kr.setCell (p := ⟨wo.heap.size, k, none⟩) (.inr (Nat.le_refl _)) _, ?_⟩
            rw [List.take_succ_eq_append_getElem (by simp; omega), List.take_set_of_le (Nat.le_refl _), ht, List.getElem_set_self, List.range_succ, hx]
            simp
          obtain ⟨old, hold⟩ : ∃ old, old = ys[k] := ⟨_, rfl⟩
          rw [← hold] at hcj
          clear hr Kr ht hold hyl hx
          go_wp2_with fail
          go_roundw
          case rel => exact ⟨k + 1, by omega, by go_num, (unhide HZ).2.1, _, (unhide HZ).1, (unhide HZ).2.2⟩
          case measure => simp [intOf]; omega
        · obtain rfl : k = n := by omega
          obtain ⟨bs, hbs⟩ : ∃ bs, bs = text k := ⟨_, rfl⟩
          have hbl : bs.length = k := by rw [hbs]; simp [text]
          have hys : ys = bs.map (Value.int .u8) := by
            rw [List.take_of_length_le (by omega)] at ht
            rw [ht, hbs]; rfl
          rw [hys] at hr
          have HBb : Hid (Bs bs) := by rw [hbs]; exact text_bs k
          have hSl : Sl wr (.slice (some ⟨wo.heap.size, 0, none⟩) k k) bs := Sl.of_owns hr
          obtain ⟨r1, hr1⟩ : ∃ r, r = sha bs := ⟨_, rfl⟩
          obtain ⟨gg, hgg⟩ : ∃ gg, gg = wo.heap.size := ⟨_, rfl⟩
          rw [← hgg] at hSl
          have hwk : IntKind.u8.wrap (k : Int) = (k : Int) := by simp [IntKind.wrap, IntKind.signed, IntKind.bits]; omega
          obtain ⟨r2, hr2⟩ : ∃ r, r = sha ((k : Int) :: cat [(.slice (some ⟨gg, 0, none⟩) k k, bs), (.slice none 0 0, []), (.slice (some ⟨gg, 0, none⟩) k k, bs)]) := ⟨_, rfl⟩
          have hr3 : r2 = sha ((k : Int) :: cat [(.slice (some ⟨gg, 0, none⟩) k k, bs), (.slice (some ⟨gg, 0, none⟩) k k, bs)]) := by rw [hr2]; simp [cat]
          obtain ⟨S1, hS1⟩ : ∃ S, S = strOfNums r1 := ⟨_, rfl⟩
          obtain ⟨S2, hS2⟩ : ∃ S, S = strOfNums r2 := ⟨_, rfl⟩
          have HR1 := hide hr1
          have HR2 := hide hr2
          have HR3 := hide hr3
          have HS1 := hide hS1
          have HS2 := hide hS2
          have HKr : Hid (Kp [] w wr) := (unhide HK0).trans Kr
          have SLB : ∀ w', Kp [] wr.drew w' → Sl w' (.slice (some ⟨gg, 0, none⟩) k k) bs := fun w' h => hSl.kept ((kp_drew wr).trans h) (by simp)
          have GL : ∀ w', Kp [] wr.drew w' → Gl w' := fun w' h => ((unhide HG).kept (unhide HKr) (by simp)).kept ((kp_drew wr).trans h) (by simp)
          have hk0 : 0 ≤ (k : Int) := by omega
          have hk255 : (k : Int) ≤ 255 := by omega
          clear hr hys ht hyl hbs hr1 hr2 hr3 hS1 hS2 hSl Kr HK0
          have HWK := hide hwk
          clear hwk
          go_wp2_with fail
          have hwk := unhide HWK
          simp only [← hgg]
          clear hgg
          refine region_grow Tryd.mixed [Is (.slice (some ⟨gg, 0, none⟩) k k), SlT (r1), Is (.string S1), Is (.slice (some ⟨gg, 0, none⟩) k k), SlT (r1), Is (.string S1), Is (.bool false), Is (.bool false), Is (.int .i64 k), Is (.int .u8 (k : Int)), Is (.slice (some ⟨gg, 0, none⟩) k k), Is (.slice (some ⟨gg, 0, none⟩) k k), LsT [(.slice (some ⟨gg, 0, none⟩) k k, bs), (.slice none 0 0, []), (.slice (some ⟨gg, 0, none⟩) k k, bs)], SlT (r2), Is (.string S2), Is (.int .i64 k), Is (.int .u8 (k : Int)), Is (.slice (some ⟨gg, 0, none⟩) k k), Is (.slice (some ⟨gg, 0, none⟩) k k), LsT [(.slice (some ⟨gg, 0, none⟩) k k, bs), (.slice (some ⟨gg, 0, none⟩) k k, bs)], SlT (r2), Is (.string S2), Is (.bool false), Is (.bool false)] [[(2, none)], [(22, some 0)], [(23, some 1)], [(2, none)], [(25, some 3)], [(26, some 4)], [(24, some 2), (27, some 5)], [(28, some 6)], [(1, none), (29, some 7)], [(30, some 8), (29, some 7)], [(2, none), (29, some 7)], [(2, none), (29, some 7)], [(32, some 10), (33, some 11), (29, some 7)], [(31, some 9), (34, some 12), (29, some 7)], [(35, some 13), (29, some 7)], [(1, none), (29, some 7)], [(37, some 15), (29, some 7)], [(2, none), (29, some 7)], [(2, none), (29, some 7)], [(39, some 17), (40, some 18), (29, some 7)], [(38, some 16), (41, some 19), (29, some 7)], [(42, some 20), (29, some 7)], [(36, some 14), (43, some 21), (29, some 7)], [(29, some 7), (44, some 22)]] (by kernel_rfl) ?_ ?_ ?_
          · simp only [List.mem_cons, List.not_mem_nil, or_false]
            intro R hR
            rcases hR with rfl | rfl | rfl | rfl | rfl | rfl | rfl | rfl | rfl | rfl | rfl | rfl | rfl | rfl | rfl | rfl | rfl | rfl | rfl | rfl | rfl | rfl | rfl | rfl <;> first | exact stable_is _ | exact stable_sl _ | exact stable_ls _
          · refine steps_cons (fun a w hk hn => ?_) ?_
            · have h2 : a.eval (.tmp 2) = .slice (some ⟨gg, 0, none⟩) k k := hn.1
              clear hn
              refine wants_plain rfl ?_
              exact grown_move (.tmp 2) rfl h2
            refine steps_cons (fun a w hk hn => ?_) ?_
            · have h22 : a.eval (.tmp 22) = .slice (some ⟨gg, 0, none⟩) k k := hn.1
              clear hn
              refine wants_plain rfl ?_
              refine grown_call (f := 8) rfl Tryd.func8 (by kernel_rfl) (by kernel_rfl) ?_
              simp only [List.map_toArray, List.map_cons, List.map_nil, h22]
              refine (sum_at _ bs r1 (unhide HR1) w (SLB w hk) (unhide HBb) (by omega) (GL w hk)).mono ?_
              rintro e w' ⟨ao, mm, c, rfl, R, K⟩
              exact ⟨_, rfl, K, R.sl⟩
            refine steps_cons (fun a w hk hn => ?_) ?_
            · have h23 : Sl w (a.eval (.tmp 23)) (r1) := hn.1
              clear hn
              refine wants_plain rfl ?_
              exact grown_conv (.tmp 23) _ _ 5 r1 rfl h23 Tryd.underlying22 Tryd.underlying5 Tryd.underlying9 (congrArg Value.string (unhide HS1).symm)
            refine steps_cons (fun a w hk hn => ?_) ?_
            · have h2 : a.eval (.tmp 2) = .slice (some ⟨gg, 0, none⟩) k k := hn.1
              clear hn
              refine wants_plain rfl ?_
              exact grown_move (.tmp 2) rfl h2
            refine steps_cons (fun a w hk hn => ?_) ?_
            · have h25 : a.eval (.tmp 25) = .slice (some ⟨gg, 0, none⟩) k k := hn.1
              clear hn
              refine wants_plain rfl ?_
              refine grown_call (f := 9) rfl Tryd.func9 (by kernel_rfl) (by kernel_rfl) ?_
              simp only [List.map_toArray, List.map_cons, List.map_nil, h25]
              refine (refsum_at _ bs r1 (unhide HR1) w (SLB w hk) (unhide HBb) (by omega)).mono ?_
              rintro e w' ⟨ao, mm, c, rfl, R, K⟩
              exact ⟨_, rfl, K, R.sl⟩
            refine steps_cons (fun a w hk hn => ?_) ?_
            · have h26 : Sl w (a.eval (.tmp 26)) (r1) := hn.1
              clear hn
              refine wants_plain rfl ?_
              exact grown_conv (.tmp 26) _ _ 5 r1 rfl h26 Tryd.underlying22 Tryd.underlying5 Tryd.underlying9 (congrArg Value.string (unhide HS1).symm)
            refine steps_cons (fun a w hk hn => ?_) ?_
            · have h24 : a.eval (.tmp 24) = .string S1 := hn.1
              have h27 : a.eval (.tmp 27) = .string S1 := hn.2.1
              clear hn
              refine wants_plain rfl ?_
              refine grown_run (v := .bool false) ?_ (Kp.refl _ _) rfl
              obtain ⟨ρ, hρ, hc, hf, hg⟩ := eval_is a
              rw [hρ] at h24 h27 ⊢
              simp [go_sem, h24, h27]
            refine steps_cons (fun a w hk hn => ?_) ?_
            · have h28 : a.eval (.tmp 28) = .bool false := hn.1
              clear hn
              refine wants_plain rfl ?_
              exact grown_move (.tmp 28) rfl h28
            refine steps_cons (fun a w hk hn => ?_) ?_
            · have h1 : a.eval (.tmp 1) = .int .i64 k := hn.1
              have h29 : a.eval (.tmp 29) = .bool false := hn.2.1
              clear hn
              refine wants_guard (d := 29) rfl rfl h29 ?_
              exact grown_move (.tmp 1) rfl h1
            refine steps_cons (fun a w hk hn => ?_) ?_
            · have h30 : a.eval (.tmp 30) = .int .i64 k := hn.1
              have h29 : a.eval (.tmp 29) = .bool false := hn.2.1
              clear hn
              refine wants_guard (d := 29) rfl rfl h29 ?_
              refine grown_run (v := .int .u8 (k : Int)) ?_ (Kp.refl _ _) rfl
              obtain ⟨ρ, hρ, hc, hf, hg⟩ := eval_is a
              rw [hρ] at h30 ⊢
              simp [go_sem, h30, hwk]
            refine steps_cons (fun a w hk hn => ?_) ?_
            · have h2 : a.eval (.tmp 2) = .slice (some ⟨gg, 0, none⟩) k k := hn.1
              have h29 : a.eval (.tmp 29) = .bool false := hn.2.1
              clear hn
              refine wants_guard (d := 29) rfl rfl h29 ?_
              exact grown_move (.tmp 2) rfl h2
            refine steps_cons (fun a w hk hn => ?_) ?_
            · have h2 : a.eval (.tmp 2) = .slice (some ⟨gg, 0, none⟩) k k := hn.1
              have h29 : a.eval (.tmp 29) = .bool false := hn.2.1
              clear hn
              refine wants_guard (d := 29) rfl rfl h29 ?_
              exact grown_move (.tmp 2) rfl h2
            refine steps_cons (fun a w hk hn => ?_) ?_
            · have h32 : a.eval (.tmp 32) = .slice (some ⟨gg, 0, none⟩) k k := hn.1
              have h33 : a.eval (.tmp 33) = .slice (some ⟨gg, 0, none⟩) k k := hn.2.1
              have h29 : a.eval (.tmp 29) = .bool false := hn.2.2.1
              clear hn
              refine wants_guard (d := 29) rfl rfl h29 ?_
              refine grown_run (v := .slice (some ⟨w.heap.size, 0, none⟩) 3 3) (w' := w.alloc (.cells #[.slice (some ⟨gg, 0, none⟩) k k, .slice none 0 0, .slice (some ⟨gg, 0, none⟩) k k] 22)) ?_ ((Kp.refl _ _).alloc _) ?_
              · obtain ⟨ρ, hρ, hc, hf, hg⟩ := eval_is a
                rw [hρ] at h32 h33 ⊢
                simp [go_sem, hc, h32, h33]
              · refine lists_of_block (l := [(.slice (some ⟨gg, 0, none⟩) k k, bs), (.slice none 0 0, []), (.slice (some ⟨gg, 0, none⟩) k k, bs)]) (heap_alloc_new w _) (by simp) (fun x hx => ?_)
                simp only [List.mem_cons, List.not_mem_nil, or_false] at hx
                rcases hx with rfl | rfl | rfl
                · exact ⟨(SLB w hk).kept ((Kp.refl _ _).alloc _) (fun _ _ => List.not_mem_nil), unhide HBb⟩
                · exact ⟨Sl.nil _, fun b hb => by cases hb⟩
                · exact ⟨(SLB w hk).kept ((Kp.refl _ _).alloc _) (fun _ _ => List.not_mem_nil), unhide HBb⟩
            refine steps_cons (fun a w hk hn => ?_) ?_
            · have h31 : a.eval (.tmp 31) = .int .u8 (k : Int) := hn.1
              have h34 : (LsT [(.slice (some ⟨gg, 0, none⟩) k k, bs), (.slice none 0 0, []), (.slice (some ⟨gg, 0, none⟩) k k, bs)]) (a.eval (.tmp 34)) w := hn.2.1
              have h29 : a.eval (.tmp 29) = .bool false := hn.2.2.1
              clear hn
              refine wants_guard (d := 29) rfl rfl h29 ?_
              refine grown_call (f := 10) rfl Tryd.func10 (by kernel_rfl) (by kernel_rfl) ?_
              simp only [List.map_toArray, List.map_cons, List.map_nil, h31]
              refine (tagged_any k _ _ r2 (unhide HR2) w h34 hk0 hk255 (by simp) (by intro x hx; simp only [List.mem_cons, List.not_mem_nil, or_false] at hx; rcases hx with rfl | rfl | rfl; (show bs.length ≤ 1000000; omega); exact Nat.zero_le _; (show bs.length ≤ 1000000; omega)) (GL w hk)).mono ?_
              rintro e w' ⟨ao, mm, c, rfl, R, K⟩
              exact ⟨_, rfl, K, R.sl⟩
            refine steps_cons (fun a w hk hn => ?_) ?_
            · have h35 : Sl w (a.eval (.tmp 35)) (r2) := hn.1
              have h29 : a.eval (.tmp 29) = .bool false := hn.2.1
              clear hn
              refine wants_guard (d := 29) rfl rfl h29 ?_
              exact grown_conv (.tmp 35) _ _ 5 r2 rfl h35 Tryd.underlying22 Tryd.underlying5 Tryd.underlying9 (congrArg Value.string (unhide HS2).symm)
            refine steps_cons (fun a w hk hn => ?_) ?_
            · have h1 : a.eval (.tmp 1) = .int .i64 k := hn.1
              have h29 : a.eval (.tmp 29) = .bool false := hn.2.1
              clear hn
              refine wants_guard (d := 29) rfl rfl h29 ?_
              exact grown_move (.tmp 1) rfl h1
            refine steps_cons (fun a w hk hn => ?_) ?_
            · have h37 : a.eval (.tmp 37) = .int .i64 k := hn.1
              have h29 : a.eval (.tmp 29) = .bool false := hn.2.1
              clear hn
              refine wants_guard (d := 29) rfl rfl h29 ?_
              refine grown_run (v := .int .u8 (k : Int)) ?_ (Kp.refl _ _) rfl
              obtain ⟨ρ, hρ, hc, hf, hg⟩ := eval_is a
              rw [hρ] at h37 ⊢
              simp [go_sem, h37, hwk]
            refine steps_cons (fun a w hk hn => ?_) ?_
            · have h2 : a.eval (.tmp 2) = .slice (some ⟨gg, 0, none⟩) k k := hn.1
              have h29 : a.eval (.tmp 29) = .bool false := hn.2.1
              clear hn
              refine wants_guard (d := 29) rfl rfl h29 ?_
              exact grown_move (.tmp 2) rfl h2
            refine steps_cons (fun a w hk hn => ?_) ?_
            · have h2 : a.eval (.tmp 2) = .slice (some ⟨gg, 0, none⟩) k k := hn.1
              have h29 : a.eval (.tmp 29) = .bool false := hn.2.1
              clear hn
              refine wants_guard (d := 29) rfl rfl h29 ?_
              exact grown_move (.tmp 2) rfl h2
            refine steps_cons (fun a w hk hn => ?_) ?_
            · have h39 : a.eval (.tmp 39) = .slice (some ⟨gg, 0, none⟩) k k := hn.1
              have h40 : a.eval (.tmp 40) = .slice (some ⟨gg, 0, none⟩) k k := hn.2.1
              have h29 : a.eval (.tmp 29) = .bool false := hn.2.2.1
              clear hn
              refine wants_guard (d := 29) rfl rfl h29 ?_
              refine grown_run (v := .slice (some ⟨w.heap.size, 0, none⟩) 2 2) (w' := w.alloc (.cells #[.slice (some ⟨gg, 0, none⟩) k k, .slice (some ⟨gg, 0, none⟩) k k] 22)) ?_ ((Kp.refl _ _).alloc _) ?_
              · obtain ⟨ρ, hρ, hc, hf, hg⟩ := eval_is a
                rw [hρ] at h39 h40 ⊢
                simp [go_sem, h39, h40]
              · refine lists_of_block (l := [(.slice (some ⟨gg, 0, none⟩) k k, bs), (.slice (some ⟨gg, 0, none⟩) k k, bs)]) (heap_alloc_new w _) (by simp) (fun x hx => ?_)
                simp only [List.mem_cons, List.not_mem_nil, or_false] at hx
                rcases hx with rfl | rfl
                · exact ⟨(SLB w hk).kept ((Kp.refl _ _).alloc _) (fun _ _ => List.not_mem_nil), unhide HBb⟩
                · exact ⟨(SLB w hk).kept ((Kp.refl _ _).alloc _) (fun _ _ => List.not_mem_nil), unhide HBb⟩
            refine steps_cons (fun a w hk hn => ?_) ?_
            · have h38 : a.eval (.tmp 38) = .int .u8 (k : Int) := hn.1
              have h41 : (LsT [(.slice (some ⟨gg, 0, none⟩) k k, bs), (.slice (some ⟨gg, 0, none⟩) k k, bs)]) (a.eval (.tmp 41)) w := hn.2.1
              have h29 : a.eval (.tmp 29) = .bool false := hn.2.2.1
              clear hn
              refine wants_guard (d := 29) rfl rfl h29 ?_
              refine grown_call (f := 11) rfl Tryd.func11 (by kernel_rfl) (by kernel_rfl) ?_
              simp only [List.map_toArray, List.map_cons, List.map_nil, h38]
              refine (reftagged_any k _ _ r2 (unhide HR3) w h41 hk0 hk255 (by simp) (by intro x hx; simp only [List.mem_cons, List.not_mem_nil, or_false] at hx; rcases hx with rfl | rfl; (show bs.length ≤ 1000000; omega); (show bs.length ≤ 1000000; omega))).mono ?_
              rintro e w' ⟨ao, mm, c, rfl, R, K⟩
              exact ⟨_, rfl, K, R.sl⟩
            refine steps_cons (fun a w hk hn => ?_) ?_
            · have h42 : Sl w (a.eval (.tmp 42)) (r2) := hn.1
              have h29 : a.eval (.tmp 29) = .bool false := hn.2.1
              clear hn
              refine wants_guard (d := 29) rfl rfl h29 ?_
              exact grown_conv (.tmp 42) _ _ 5 r2 rfl h42 Tryd.underlying22 Tryd.underlying5 Tryd.underlying9 (congrArg Value.string (unhide HS2).symm)
            refine steps_cons (fun a w hk hn => ?_) ?_
            · have h36 : a.eval (.tmp 36) = .string S2 := hn.1
              have h43 : a.eval (.tmp 43) = .string S2 := hn.2.1
              have h29 : a.eval (.tmp 29) = .bool false := hn.2.2.1
              clear hn
              refine wants_guard (d := 29) rfl rfl h29 ?_
              refine grown_run (v := .bool false) ?_ (Kp.refl _ _) rfl
              obtain ⟨ρ, hρ, hc, hf, hg⟩ := eval_is a
              rw [hρ] at h36 h43 ⊢
              simp [go_sem, h36, h43]
            refine steps_cons (fun a w hk hn => ?_) ?_
            · have h29 : a.eval (.tmp 29) = .bool false := hn.1
              have h44 : a.eval (.tmp 44) = .bool false := hn.2.1
              clear hn
              refine wants_plain rfl ?_
              exact grown_pick _ _ _ false rfl h29 h44
            exact trivial
          intro W1 hkW1
          rintro _ rfl
          intro v23 h23
          rintro _ rfl
          rintro _ rfl
          intro v26 h26
          rintro _ rfl
          rintro _ rfl
          rintro _ rfl
          rintro _ rfl
          rintro _ rfl
          rintro _ rfl
          rintro _ rfl
          intro v34 h34
          intro v35 h35
          rintro _ rfl
          rintro _ rfl
          rintro _ rfl
          rintro _ rfl
          rintro _ rfl
          intro v41 h41
          intro v42 h42
          rintro _ rfl
          rintro _ rfl
          rintro _ rfl
          refine fin_nil ?_
          simp only [Act.put, List.set_cons_zero, List.set_cons_succ, List.setIfInBounds_toArray]
          go_wp2_with fail
          go_roundw
          case rel => exact ⟨k + 1, by omega, by go_num, (unhide HKr).trans ((kp_drew wr).trans hkW1)⟩
          case measure => simp [intOf]; omega
    · have HK0 := hide K0
      have hL0 := hide (lists_nil wr none 0)
      obtain ⟨r, hr⟩ : ∃ r, r = sha [0] := ⟨_, rfl⟩
      have HR := hide hr
      have HRt : Hid (r = sha (0 :: cat [])) := hr
      have hrl : r.length = 32 := by rw [hr]; exact sha_len _
      have HRB : Hid (Bs r) := by rw [hr]; exact sha_bs _
      obtain ⟨S, hS⟩ : ∃ S, S = strOfNums (hexs r) := ⟨_, rfl⟩
      have HS := hide hS
      clear K0 hr hS
      have HG1 := hide ((unhide HG).kept (unhide HK0) (by simp))
      go_wp2_with fail
      refine (tagged_any 0 _ [] r (unhide HRt) wr (unhide hL0) (by omega) (by omega) (by simp) (fun x hx => by cases hx) (unhide HG1)).mono ?_
      rintro ee w2 ⟨a2, m2, c2, rfl, R2, K2⟩
      have hK2 := hide ((unhide HK0).trans K2)
      have hR2 := hide R2.sl
      clear K2 R2 hL0 HG1
      go_wp2_with fail
      refine (hex_at _ r S (unhide HS) w2 (unhide hR2) (unhide HRB) (by omega)).mono ?_
      rintro ee w3 ⟨rfl, K3⟩
      have hK3 := hide ((unhide hK2).trans K3)
      clear hK2 hR2 K3
      go_wp2_with fail
      refine (refsum_at _ [0] r (unhide HR) _ (one_block w3 0) (fun b hb => by obtain rfl := List.mem_singleton.1 hb; omega) (by simp)).mono ?_
      rintro ee w4 ⟨a4, m4, c4, rfl, R4, K4⟩
      have hK4 := hide (((unhide hK3).alloc _).trans K4)
      have hR4 := hide R4.sl
      clear hK3 K4 R4
      go_wp2_with fail
      refine (lawhex_any _ r w4 (unhide hR4) (unhide HRB) (by omega)).mono ?_
      rintro ee w5 ⟨rfl, K5⟩
      have hK5 := hide ((unhide hK4).trans K5)
      rw [← unhide HS]
      clear hK4 hR4 K5
      go_wp2_with fail
      refine (known_any w5 ((unhide HG).kept (unhide hK5) (by simp))).mono ?_
      rintro ee w6 ⟨rfl, K6⟩
      go_wp2_with fail
      go_ret
      exact ⟨rfl, ((unhide hK5).trans K6).below (Nat.le_refl _) (by simp)⟩

set_option maxRecDepth 100000 in
theorem lifted (os : Os) (started : os.Started) (H : Type) (enc : TypeId × Value → H) :
    ReturnsInHanded {} Tryd.checked os 3 .any (fun w args => (Rows.hashNumbersSpec.pre enc Tryd.prog Tryd.f3 [] false w args ∧ laidMetH Tryd.prog laid1 w) ∧ sizedMet enc Tryd.prog Tryd.f3 (OpenSpec.ofChange Rows.hashNumbersSpec) false w args) (Rows.hashNumbersSpec.post enc Tryd.prog Tryd.f3 false true false false) := by
  refine returnsInHanded_of_change_and (C := Tryd.checked) (X := fun w _ => laidMetH Tryd.prog laid1 w) (fun _ _ _ hh h => h.of_heap hh) own started (by kernel_rfl) Tryd.func3
    (ChangeSpec.witness_shaped (enc := enc) (C := Tryd.checked) (os := os) (X := fun w _ => laidMetH Tryd.prog laid1 w) false (World.doorLaid Tryd.prog 400 os) #[] 8 rfl (World.shaped_of_RefB (by kernel_rfl) (by kernel_rfl)) (by kernel_rfl) (by kernel_rfl) (by kernel_rfl) (door_met os _)) ?_
  intro W base args ds gs before hval0 hW hcnd hsz0 hL _
  have hG := gl_of_laid hL
  have hval : ∀ (j : Nat) t v, Tryd.f3.params[j]? = some t → args[j]? = some v → Value.okWide Tryd.prog W .any base t v := hval0
  have hW' := hW
  obtain ⟨p, q, hA0, hV, rfl, hfz, hnd⟩ := hW
  have hA : DataW.TrodAll enc Tryd.prog W 0 (fun _ => true) true Tryd.f3.params.toList args.toList ds p := hA0
  rw [Tryd.params3] at hA hval
  obtain ⟨hargs, rfl, rfl⟩ := trodAll_nil hA
  obtain rfl : args = #[] := by cases args; simp_all
  obtain ⟨rfl, rfl⟩ := trodVars_none hV
  clear hA0 hval0
  refine (walk  W hG).mono fun e W' ⟨he, bel⟩ => ?_
  subst he
  exact ⟨_, rfl, _, _, _, [], _, [], hW', trodAll_mk1 (shut_bool Tryd.underlying4 _), trodAll_mk0, rfl, bel.frame _, fun h => by cases h⟩

theorem over : Rows.hashNumbersRow.holds Tryd.pinned (OpenSpec.ofChange Rows.hashNumbersSpec) :=
  OpenClaim.holds_of_wide 3 Tryd.f3 rfl rfl rfl rfl rfl rfl rfl ⟨rfl, rfl, rfl, rfl, rfl⟩ rfl rfl rfl rfl rfl (by kernel_rfl) Tryd.func3 (by kernel_rfl)
    (of_decide_eq_true (by kernel_rfl)) (by unfold Func.isWrapper; first | (rw [if_pos (by decide +kernel)]; kernel_rfl) | (rw [if_neg (by decide +kernel)]; exact ⟨rfl, rfl⟩))
    (fun os started H enc _ => lifted os started H enc)
end Go.Proofs.YthmbeamphahlmaaDoor.hashNumbers

namespace Go.Proofs.YthmbeamphahlmaaDoor
/-- The given statement: the tied card. -/
theorem HashNumbers_holds : Rows.HashNumbersCardSaid :=
  Claim7.holds_tied_plain_at .later [] [.data] true Rows.hashNumbersCard.stood.harness false
    hashNumbers.over (fun _ h => by cases h) (by kernel_rfl) (fun _ h => by cases h) hashNumbers_row_tie rfl ⟨rfl, rfl⟩ (by kernel_rfl) rfl
    (fun f fn hf hfn => by
      obtain rfl : f = 3 := Option.some.inj ((show Tryd.prog.funcNamed "broadsheet/broadsheetlaw2.HashNumbers" = some 3 by kernel_rfl).symm.trans hf) |>.symm
      obtain rfl : fn = Tryd.f3 := (Option.some.inj (Tryd.func3.symm.trans hfn)).symm
      exact ⟨by kernel_rfl, fun j t ht => by
        rw [Tryd.params3] at ht
        have hm : t ∈ ([] : List TypeId) := by simpa using Array.mem_of_getElem? ht
        have hall : (([] : List TypeId).all fun u => !Tryd.prog.wantsStandIn u) = true := by kernel_rfl
        exact (show Tryd.prog.wantsStandIn t = false by simpa using List.all_eq_true.1 hall t hm)⟩)
    (by kernel_rfl)
#print axioms HashNumbers_holds
end Go.Proofs.YthmbeamphahlmaaDoor
