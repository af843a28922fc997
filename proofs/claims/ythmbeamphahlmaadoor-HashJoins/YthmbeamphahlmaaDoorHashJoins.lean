/-
  The statement HashJoinsCardSaid: for every row of bytes, row of numbers and byte the law function HashJoins returns true and leaves its arguments as they were; the table hash.roundWords starts as the program's text lays it (tied). No other condition.
-/
import Derived.Test.YthmbeamphahlmaaDoorHInts
import Derived.Test.YthmbeamphahlmaaDoorHTag
import Derived.Test.YthmbeamphahlmaaDoorRGrowApp
import Derived.Test.YthmbeamphahlmaaDoorTie
import Derived.Test.YthmbeamphahlmaaDoorCards
import Derived.SevenTiedAt
namespace Go.Proofs.YthmbeamphahlmaaDoor.hashJoins
open Go.ChangeShapes Go.WideShapes Go.ChangeAt Go.RowKit
open Go.Proofs.YthmbeamphahlmaaDoor
set_option linter.unusedVariables false

set_option maxRecDepth 100000 in
set_option maxHeartbeats 4000000 in
theorem walk (v0 : Value) (bs0 : List Int) (v1 : Value) (zs : List Int) (tag : Int) (w : World) (hG : Gl w) (hb0 : Sl w v0 bs0) (hB0 : Bs bs0) (hz0 : Ints w v1 zs) (htag : 0 ≤ tag ∧ tag ≤ 255) :
    Calls Tryd.prog 5 #[v0, v1, .int .u8 tag] w fun e w' => e = .returned (.bool true) ∧ Below w.heap.size w w' := by
  have HG := hide hG
  have hpos := hG.pos
  obtain ⟨h0, h1⟩ := htag
  obtain ⟨bs, hbs⟩ : ∃ bs, bs = bs0.take 300 := ⟨_, rfl⟩
  have hbl : bs.length ≤ 300 := by rw [hbs]; simp; omega
  have HBb : Hid (Bs bs) := by rw [hbs]; exact hB0.take _
  have kb := cut_any v0 bs0 300 w hb0
  rw [← hbs] at kb
  have KB := hide kb
  have HB0 := hide hb0
  obtain ⟨az, cz, rfl, hzl, hzb, hzc⟩ := hz0
  unfold maxLen at hzl
  have HZB := hide hzb
  have HZC := hide hzc
  obtain ⟨L, hL⟩ : ∃ L, L = zs.length := ⟨_, rfl⟩
  rw [← hL] at hzl ⊢
  have HL := hide hL
  clear hG kb hb0 hB0 hbs hzb hzc hL
  go_enter Tryd.func5, Tryd.ntmps5
  go_wp2_with fail
  refine (unhide KB).mono ?_
  rintro ee w1 ⟨ab, cb, rfl, hT1, hw⟩
  subst w1
  have SB := hT1 _ (unhide HB0)
  obtain ⟨n, hn⟩ : ∃ n, n = bs.length := ⟨_, rfl⟩
  rw [← hn] at SB ⊢
  have hnc : n ≤ cb ∧ cb ≤ maxLen ∧ (ab = none → cb = 0) := by obtain ⟨_, _, e, x1, x2, x3, _⟩ := SB; injection e with e1 e2 e3; subst e1; subst e3; exact ⟨by omega, x2, x3⟩
  obtain ⟨hnc, hcx, hab⟩ := hnc
  unfold maxLen at hcx
  have B1 := hide SB
  have HN := hide hn
  have hn300 : n ≤ 300 := by omega
  clear hT1 KB HB0 SB hn
  go_wp2_with fail
  go_loopw [7, 8, 9] (fun v at_ i wr => ∃ (j p m c : Nat) (ao : Option Addr) (l : List (Value × List Int)), j ≤ L ∧ j ≤ 10 ∧ p ≤ n ∧ v = .slice ao m c ∧ at_ = .int .i64 p ∧ i = .int .i64 j ∧ RowV wr w.heap.size v (l.map (·.1)) ∧ l.length = j ∧ (∀ x ∈ l, Sl w x.1 x.2 ∧ Bs x.2) ∧ cat l = bs.take p ∧ Kp [] w wr) (fun _ _ i _ => 10 - (intOf i).toNat)
  case atStart => exact ⟨0, 0, 0, 0, none, [], by omega, by omega, by omega, rfl, rfl, rfl, World.ownsRow_nil w _ _ _, rfl, (fun x hx => by cases hx), rfl, Kp.refl _ _⟩
  case round =>
    obtain ⟨j, p, m, c, ao, l, hj, hj10, hp, rfl, rfl, rfl, Rr, hll, hSl, hcat, Kr⟩ := hrel
    by_cases hlt : j < L ∧ j < 10
    · obtain ⟨hlt1, hlt2⟩ := hlt
      have hlt3 : (j : Int) < (L : Int) := by omega
      have hlt4 : (j : Int) < 10 := by omega
      have hjz : j < zs.length := by have := unhide HL; omega
      obtain ⟨a, rfl, hcz⟩ := unhide HZC j hjz
      have hczr := Kr.cell hcz (by simp)
      have hzb := unhide HZB zs[j] (List.getElem_mem hjz)
      obtain ⟨z, hz⟩ : ∃ z, z = zs[j] := ⟨_, rfl⟩
      rw [← hz] at hczr hzb
      have HW := hide (within_any z p n wr (by omega) (by omega) (by omega) hzb)
      have HKr := hide Kr
      have HRr := hide Rr
      have HSl := hide hSl
      have HCat := hide hcat
      clear hcz hz hzb Kr Rr hSl hcat HZC
      have hbl' := unhide HN
      obtain ⟨X, hX⟩ : ∃ X, X = (if cb = p then ab else ab.map (·.add p)) := ⟨_, rfl⟩
      have hsp := fun k (h1 : p ≤ k) (h2 : k ≤ n) => (unhide B1).span p k h1 (by omega)
      rw [← hX] at hsp
      have HSP := hide hsp
      have hrun : ∀ (k : Nat) (W : World), p ≤ k → k ≤ cb → (Instr.sliceAt 22 (.slice ab n cb) (some (.int .i64 p)) (some (.int .i64 k)) none).run Tryd.prog W = .ok (.slice X (k - p) (cb - p)) W := fun k W h1 h2 => by rw [hX]; exact run_span ab n cb p k W h1 h2 hab
      have HRN := hide hrun
      clear hsp hbl' hX hrun
      go_wp2_with fail
      refine (unhide HW).mono ?_
      rintro ee w2 ⟨x, rfl, hx0, hx1, hw⟩
      subst w2
      obtain ⟨k, rfl⟩ := Int.eq_ofNat_of_zero_le (show 0 ≤ x by omega)
      have hk1 : p ≤ k := by omega
      have hk2 : k ≤ n := by omega
      have hrk := fun W => unhide HRN k W hk1 (by omega)
      go_wp2_with (at_builtin; refine wpList_append_rowv rfl (.tmp 32) (.tmp 37) rfl w.heap.size _ _ rfl ((unhide HRr).kept ((Kp.refl [] wr).alloc _) (by simp)) ⟨wr.heap.size, 0, none⟩ 1 [Value.slice X (k - p) (cb - p)] rfl (World.news_of_block (heap_alloc_new wr _)) (by simp [Value.oneCell']) (by simp; omega) (by have := (unhide HKr).size; simp; omega) ?_; intro ao3 m3 c3 w3 r3 s3)
      clear hrk
      go_roundw
      case rel =>
        refine ⟨j + 1, k, m3, c3, ao3, l ++ [(Value.slice X (k - p) (cb - p), (bs.drop p).take (k - p))], by omega, by omega, hk2, rfl, rfl, by go_num, by simpa using r3, by simp [hll], fun x hx => ?_, ?_, (unhide HRr).step (unhide HKr) (s3.after ((Kp.refl [] wr).alloc _))⟩
        · rcases List.mem_append.1 hx with h | h
          · exact unhide HSl x h
          · obtain rfl := List.mem_singleton.1 h
            exact ⟨unhide HSP k hk1 hk2, ((unhide HBb).drop _).take _⟩
        · rw [cat_snoc, unhide HCat]
          exact take_cut bs p k hk1
      case measure => simp [intOf]; omega
    · obtain ⟨X, hX⟩ : ∃ X, X = (if cb = p then ab else ab.map (·.add p)) := ⟨_, rfl⟩
      have hsp := (unhide B1).drop p (by have := unhide HN; omega)
      rw [← hX] at hsp
      have hrun : ∀ (W : World), (Instr.sliceAt 22 (.slice ab n cb) (some (.int .i64 p)) none none).run Tryd.prog W = .ok (.slice X (n - p) (cb - p)) W := fun W => by rw [hX]; exact run_from ab n cb p W hp hnc hab
      obtain ⟨l2, hl2⟩ : ∃ l2, l2 = l ++ [(Value.slice X (n - p) (cb - p), bs.drop p), (Value.slice none 0 0, [])] := ⟨_, rfl⟩
      have hl2S : ∀ x ∈ l2, Sl w x.1 x.2 ∧ Bs x.2 := fun x hx => by
        rw [hl2] at hx
        rcases List.mem_append.1 hx with h | h
        · exact hSl x h
        · simp only [List.mem_cons, List.not_mem_nil, or_false] at h
          rcases h with rfl | rfl
          · exact ⟨hsp, (unhide HBb).drop _⟩
          · exact ⟨Sl.nil w, fun b hb => by cases hb⟩
      have hcat2 : cat l2 = bs := by
        rw [hl2]
        simp only [cat, List.map_append, List.flatten_append, List.map_cons, List.map_nil, List.flatten_cons, List.flatten_nil, List.append_nil] at hcat ⊢
        rw [hcat, List.take_append_drop]
      have hm2 : ∀ x ∈ l2, x.2.length ≤ 1000000 := fun x hx => by
        have e1 : x.2.length ≤ (cat l2).length := by
          obtain ⟨s, t, e⟩ := List.append_of_mem hx
          rw [e]
          simp only [cat, List.map_append, List.map_cons, List.flatten_append, List.flatten_cons, List.length_append]
          omega
        rw [hcat2] at e1
        omega
      have hll2 : l2.length ≤ 12 := by rw [hl2]; simp; omega
      have HL2 := hide hl2
      have HL2S := hide hl2S
      have HCat2 := hide hcat2
      have HM2 := hide hm2
      have HKr := hide Kr
      have HRr := hide Rr
      have hjj : (j < L ∧ ¬ j < 10) ∨ ¬ j < L := by omega
      obtain ⟨r, hr⟩ : ∃ r, r = sha (tag :: bs) := ⟨_, rfl⟩
      have HR := hide hr
      have HR2 : Hid (r = sha (tag :: cat l2)) := by rw [hcat2]; exact hr
      have HR3 : Hid (r = sha (tag :: cat [(Value.slice ab n cb, bs)])) := by show r = _; rw [hr]; simp [cat]
      have hrl : r.length = 32 := by rw [hr]; exact sha_len _
      obtain ⟨S, hS⟩ : ∃ S, S = strOfNums r := ⟨_, rfl⟩
      have HS := hide hS
      have HRN := hide hrun
      clear hsp hX Kr Rr hSl hcat hl2 hl2S hcat2 hm2 hlt hr hS hrun
      rcases hjj with ⟨hj1, hj2⟩ | hj1
      · have hj3 : (j : Int) < (L : Int) := by omega
        have hj4 : ¬ (j : Int) < 10 := by omega
        have hrun := unhide HRN
        go_wp2_with (at_builtin; refine wpList_append_rowv rfl (.tmp 40) (.tmp 44) rfl w.heap.size _ _ rfl ((unhide HRr).kept ((Kp.refl [] wr).alloc _) (by simp)) ⟨wr.heap.size, 0, none⟩ 2 [Value.slice X (n - p) (cb - p), Value.slice none 0 0] rfl (World.news_of_block (heap_alloc_new wr _)) (by simp [Value.oneCell']) (by simp; omega) (by have := (unhide HKr).size; simp; omega) ?_; intro ao3 m3 c3 w3 r3 s3)
        clear hrun
        have K3 := (unhide HRr).step (unhide HKr) (s3.after ((Kp.refl [] wr).alloc _))
        have R3 : RowV w3 w.heap.size (.slice ao3 m3 c3) (l2.map (·.1)) := by rw [unhide HL2]; simpa using r3
        refine (tagged_any tag _ l2 r (unhide HR2) w3 (lists_of_rowv R3 (by omega) (fun x hx => ⟨(unhide HL2S x hx).1.kept K3 (by simp), (unhide HL2S x hx).2⟩)) h0 h1 (by omega) (unhide HM2) ((unhide HG).kept K3 (by simp))).mono ?_
        rintro ee w4 ⟨a4, m4, c4, rfl, R4, K4⟩
        obtain rfl : m4 = 32 := by rw [R4.len, hrl]
        have HK4 := hide (K3.trans K4)
        have HX4 := hide R4.sl
        clear r3 s3 K3 R3 R4 K4
        have SLB : ∀ w', Kp [] w4.drew w' → Sl w' (.slice ab n cb) bs := fun w' h => (unhide B1).kept ((unhide HK4).trans ((kp_drew w4).trans h)) (by simp)
        have SLX : ∀ w', Kp [] w4.drew w' → Sl w' (.slice a4 32 c4) r := fun w' h => (unhide HX4).kept ((kp_drew w4).trans h) (by simp)
        have GL : ∀ w', Kp [] w4.drew w' → Gl w' := fun w' h => ((unhide HG).kept (unhide HK4) (by simp)).kept ((kp_drew w4).trans h) (by simp)
        go_wp2_with fail
        refine region_grow Tryd.mixed [Is (.slice a4 32 c4), Is (.string S), Is (.int .u8 tag), Is (.slice ab n cb), LsT [(.slice ab n cb, bs)], SlT (r), Is (.string S), Is (.bool true), Is (.bool true), Is (.slice a4 32 c4), Is (.string S), Is (.int .u8 tag), Full [tag], Is (.slice ab n cb), SlT (tag :: bs), SlT (r), Is (.string S), Is (.bool true), Is (.bool true), Is (.bool true), Is (.slice a4 32 c4), Is (.int .i64 32), Is (.bool true), Is (.bool true), Is (.bool true), Is (.bool true), Is (.bool true), Is (.bool true)] [[(11, none)], [(49, some 0)], [(2, none)], [(0, none)], [(52, some 3)], [(51, some 2), (53, some 4)], [(54, some 5)], [(50, some 1), (55, some 6)], [(56, some 7)], [(11, none), (57, some 8)], [(58, some 9), (57, some 8)], [(2, none), (57, some 8)], [(60, some 11), (57, some 8)], [(0, none), (57, some 8)], [(61, some 12), (62, some 13), (57, some 8)], [(63, some 14), (57, some 8)], [(64, some 15), (57, some 8)], [(59, some 10), (65, some 16), (57, some 8)], [(57, some 8), (66, some 17)], [(67, some 18)], [(11, none), (68, some 19)], [(69, some 20), (68, some 19)], [(70, some 21), (68, some 19)], [(68, some 19), (71, some 22)], [(72, some 23)], [(73, some 24)], [(73, some 24), (74, some 25)], [(75, some 26)]] (by kernel_rfl) ?_ ?_ ?_
        · simp only [List.mem_cons, List.not_mem_nil, or_false]
          intro R hR
          rcases hR with rfl | rfl | rfl | rfl | rfl | rfl | rfl | rfl | rfl | rfl | rfl | rfl | rfl | rfl | rfl | rfl | rfl | rfl | rfl | rfl | rfl | rfl | rfl | rfl | rfl | rfl | rfl | rfl <;> first | exact stable_is _ | exact stable_ls _ | exact stable_sl _ | exact stable_full _
        · refine steps_cons (fun a w hk hn => ?_) ?_
          · have h11 : a.eval (.tmp 11) = .slice a4 32 c4 := hn.1
            clear hn
            refine wants_plain rfl ?_
            exact grown_move (.tmp 11) rfl h11
          refine steps_cons (fun a w hk hn => ?_) ?_
          · have h49 : a.eval (.tmp 49) = .slice a4 32 c4 := hn.1
            clear hn
            refine wants_plain rfl ?_
            exact grown_conv (.tmp 49) _ _ 5 r rfl (by rw [h49]; exact SLX w hk) Tryd.underlying22 Tryd.underlying5 Tryd.underlying9 (congrArg Value.string (unhide HS).symm)
          refine steps_cons (fun a w hk hn => ?_) ?_
          · have h2 : a.eval (.tmp 2) = .int .u8 tag := hn.1
            clear hn
            refine wants_plain rfl ?_
            exact grown_move (.tmp 2) rfl h2
          refine steps_cons (fun a w hk hn => ?_) ?_
          · have h0 : a.eval (.tmp 0) = .slice ab n cb := hn.1
            clear hn
            refine wants_plain rfl ?_
            exact grown_move (.tmp 0) rfl h0
          refine steps_cons (fun a w hk hn => ?_) ?_
          · have h52 : a.eval (.tmp 52) = .slice ab n cb := hn.1
            clear hn
            refine wants_plain rfl ?_
            refine grown_run (v := .slice (some ⟨w.heap.size, 0, none⟩) 1 1) (w' := w.alloc (.cells #[.slice ab n cb] 22)) ?_ ((Kp.refl _ _).alloc _) ?_
            · obtain ⟨ρ, hρ, hc, hf, hg⟩ := eval_is a
              rw [hρ] at h52 ⊢
              simp [go_sem, h52]
            · refine lists_of_block (l := [(.slice ab n cb, bs)]) (heap_alloc_new w _) (by simp) (fun x hx => ?_)
              obtain rfl := List.mem_singleton.1 hx
              exact ⟨(SLB w hk).kept ((Kp.refl _ _).alloc _) (fun _ _ => List.not_mem_nil), unhide HBb⟩
          refine steps_cons (fun a w hk hn => ?_) ?_
          · have h51 : a.eval (.tmp 51) = .int .u8 tag := hn.1
            have h53 : (LsT [(.slice ab n cb, bs)]) (a.eval (.tmp 53)) w := hn.2.1
            clear hn
            refine wants_plain rfl ?_
            refine grown_call (f := 10) rfl Tryd.func10 (by kernel_rfl) (by kernel_rfl) ?_
            simp only [List.map_toArray, List.map_cons, List.map_nil, h51]
            refine (tagged_any tag _ _ r (unhide HR3) w h53 h0 h1 (by simp) (by intro x hx; obtain rfl := List.mem_singleton.1 hx; show bs.length ≤ 1000000; omega) (GL w hk)).mono ?_
            rintro e w' ⟨ao, mm, c, rfl, R, K⟩
            exact ⟨_, rfl, K, R.sl⟩
          refine steps_cons (fun a w hk hn => ?_) ?_
          · have h54 : Sl w (a.eval (.tmp 54)) (r) := hn.1
            clear hn
            refine wants_plain rfl ?_
            exact grown_conv (.tmp 54) _ _ 5 r rfl h54 Tryd.underlying22 Tryd.underlying5 Tryd.underlying9 (congrArg Value.string (unhide HS).symm)
          refine steps_cons (fun a w hk hn => ?_) ?_
          · have h50 : a.eval (.tmp 50) = .string S := hn.1
            have h55 : a.eval (.tmp 55) = .string S := hn.2.1
            clear hn
            refine wants_plain rfl ?_
            refine grown_run (v := .bool true) ?_ (Kp.refl _ _) rfl
            obtain ⟨ρ, hρ, hc, hf, hg⟩ := eval_is a
            rw [hρ] at h50 h55 ⊢
            simp [go_sem, h50, h55]
          refine steps_cons (fun a w hk hn => ?_) ?_
          · have h56 : a.eval (.tmp 56) = .bool true := hn.1
            clear hn
            refine wants_plain rfl ?_
            exact grown_move (.tmp 56) rfl h56
          refine steps_cons (fun a w hk hn => ?_) ?_
          · have h11 : a.eval (.tmp 11) = .slice a4 32 c4 := hn.1
            have h57 : a.eval (.tmp 57) = .bool true := hn.2.1
            clear hn
            refine wants_guard (d := 57) rfl rfl h57 ?_
            exact grown_move (.tmp 11) rfl h11
          refine steps_cons (fun a w hk hn => ?_) ?_
          · have h58 : a.eval (.tmp 58) = .slice a4 32 c4 := hn.1
            have h57 : a.eval (.tmp 57) = .bool true := hn.2.1
            clear hn
            refine wants_guard (d := 57) rfl rfl h57 ?_
            exact grown_conv (.tmp 58) _ _ 5 r rfl (by rw [h58]; exact SLX w hk) Tryd.underlying22 Tryd.underlying5 Tryd.underlying9 (congrArg Value.string (unhide HS).symm)
          refine steps_cons (fun a w hk hn => ?_) ?_
          · have h2 : a.eval (.tmp 2) = .int .u8 tag := hn.1
            have h57 : a.eval (.tmp 57) = .bool true := hn.2.1
            clear hn
            refine wants_guard (d := 57) rfl rfl h57 ?_
            exact grown_move (.tmp 2) rfl h2
          refine steps_cons (fun a w hk hn => ?_) ?_
          · have h60 : a.eval (.tmp 60) = .int .u8 tag := hn.1
            have h57 : a.eval (.tmp 57) = .bool true := hn.2.1
            clear hn
            refine wants_guard (d := 57) rfl rfl h57 ?_
            refine grown_run (v := .slice (some ⟨w.heap.size, 0, none⟩) 1 1) (w' := w.alloc (.cells #[.int .u8 tag] 5)) ?_ ((Kp.refl _ _).alloc _) ⟨⟨_, rfl⟩, one_block w tag⟩
            obtain ⟨ρ, hρ, hc, hf, hg⟩ := eval_is a
            rw [hρ] at h60 ⊢
            simp [go_sem, h60]
          refine steps_cons (fun a w hk hn => ?_) ?_
          · have h0 : a.eval (.tmp 0) = .slice ab n cb := hn.1
            have h57 : a.eval (.tmp 57) = .bool true := hn.2.1
            clear hn
            refine wants_guard (d := 57) rfl rfl h57 ?_
            exact grown_move (.tmp 0) rfl h0
          refine steps_cons (fun a w hk hn => ?_) ?_
          · have h61 : (Full [tag]) (a.eval (.tmp 61)) w := hn.1
            have h62 : a.eval (.tmp 62) = .slice ab n cb := hn.2.1
            have h57 : a.eval (.tmp 57) = .bool true := hn.2.2.1
            clear hn
            refine wants_guard (d := 57) rfl rfl h57 ?_
            exact grown_append_full (.tmp 61) (.tmp 62) [tag] bs rfl h61 (by rw [h62]; exact SLB w hk) (by simp; omega) (fun v w' h => h)
          refine steps_cons (fun a w hk hn => ?_) ?_
          · have h63 : Sl w (a.eval (.tmp 63)) (tag :: bs) := hn.1
            have h57 : a.eval (.tmp 57) = .bool true := hn.2.1
            clear hn
            refine wants_guard (d := 57) rfl rfl h57 ?_
            refine grown_call (f := 8) rfl Tryd.func8 (by kernel_rfl) (by kernel_rfl) ?_
            simp only [List.map_toArray, List.map_cons, List.map_nil]
            refine (sum_at _ (tag :: bs) r (unhide HR) w h63 (fun b hb => by rcases List.mem_cons.1 hb with rfl | hb; exact ⟨h0, h1⟩; exact unhide HBb b hb) (by simp; omega) (GL w hk)).mono ?_
            rintro e w' ⟨ao, mm, c, rfl, R, K⟩
            exact ⟨_, rfl, K, R.sl⟩
          refine steps_cons (fun a w hk hn => ?_) ?_
          · have h64 : Sl w (a.eval (.tmp 64)) (r) := hn.1
            have h57 : a.eval (.tmp 57) = .bool true := hn.2.1
            clear hn
            refine wants_guard (d := 57) rfl rfl h57 ?_
            exact grown_conv (.tmp 64) _ _ 5 r rfl h64 Tryd.underlying22 Tryd.underlying5 Tryd.underlying9 (congrArg Value.string (unhide HS).symm)
          refine steps_cons (fun a w hk hn => ?_) ?_
          · have h59 : a.eval (.tmp 59) = .string S := hn.1
            have h65 : a.eval (.tmp 65) = .string S := hn.2.1
            have h57 : a.eval (.tmp 57) = .bool true := hn.2.2.1
            clear hn
            refine wants_guard (d := 57) rfl rfl h57 ?_
            refine grown_run (v := .bool true) ?_ (Kp.refl _ _) rfl
            obtain ⟨ρ, hρ, hc, hf, hg⟩ := eval_is a
            rw [hρ] at h59 h65 ⊢
            simp [go_sem, h59, h65]
          refine steps_cons (fun a w hk hn => ?_) ?_
          · have h57 : a.eval (.tmp 57) = .bool true := hn.1
            have h66 : a.eval (.tmp 66) = .bool true := hn.2.1
            clear hn
            refine wants_plain rfl ?_
            exact grown_pick _ _ _ true rfl h57 h66
          refine steps_cons (fun a w hk hn => ?_) ?_
          · have h67 : a.eval (.tmp 67) = .bool true := hn.1
            clear hn
            refine wants_plain rfl ?_
            exact grown_move (.tmp 67) rfl h67
          refine steps_cons (fun a w hk hn => ?_) ?_
          · have h11 : a.eval (.tmp 11) = .slice a4 32 c4 := hn.1
            have h68 : a.eval (.tmp 68) = .bool true := hn.2.1
            clear hn
            refine wants_guard (d := 68) rfl rfl h68 ?_
            exact grown_move (.tmp 11) rfl h11
          refine steps_cons (fun a w hk hn => ?_) ?_
          · have h69 : a.eval (.tmp 69) = .slice a4 32 c4 := hn.1
            have h68 : a.eval (.tmp 68) = .bool true := hn.2.1
            clear hn
            refine wants_guard (d := 68) rfl rfl h68 ?_
            refine grown_run (v := .int .i64 32) ?_ (Kp.refl _ _) rfl
            obtain ⟨ρ, hρ, hc, hf, hg⟩ := eval_is a
            rw [hρ] at h69 ⊢
            simp [go_sem, h69]
          refine steps_cons (fun a w hk hn => ?_) ?_
          · have h70 : a.eval (.tmp 70) = .int .i64 32 := hn.1
            have h68 : a.eval (.tmp 68) = .bool true := hn.2.1
            clear hn
            refine wants_guard (d := 68) rfl rfl h68 ?_
            refine grown_run (v := .bool true) ?_ (Kp.refl _ _) rfl
            obtain ⟨ρ, hρ, hc, hf, hg⟩ := eval_is a
            rw [hρ] at h70 ⊢
            simp [go_sem, hc, h70]
          refine steps_cons (fun a w hk hn => ?_) ?_
          · have h68 : a.eval (.tmp 68) = .bool true := hn.1
            have h71 : a.eval (.tmp 71) = .bool true := hn.2.1
            clear hn
            refine wants_plain rfl ?_
            exact grown_pick _ _ _ true rfl h68 h71
          refine steps_cons (fun a w hk hn => ?_) ?_
          · have h72 : a.eval (.tmp 72) = .bool true := hn.1
            clear hn
            refine wants_plain rfl ?_
            exact grown_move (.tmp 72) rfl h72
          refine steps_cons (fun a w hk hn => ?_) ?_
          · have h73 : a.eval (.tmp 73) = .bool true := hn.1
            clear hn
            refine wants_guard (d := 73) rfl rfl h73 ?_
            refine grown_call (f := 14) rfl Tryd.func14 (by kernel_rfl) (by kernel_rfl) ?_
            simp only [List.map_toArray, List.map_nil]
            refine (known_any w (GL w hk)).mono ?_
            rintro e w' ⟨rfl, K⟩
            exact ⟨_, rfl, K, rfl⟩
          refine steps_cons (fun a w hk hn => ?_) ?_
          · have h73 : a.eval (.tmp 73) = .bool true := hn.1
            have h74 : a.eval (.tmp 74) = .bool true := hn.2.1
            clear hn
            refine wants_plain rfl ?_
            exact grown_pick _ _ _ true rfl h73 h74
          refine steps_cons (fun a w hk hn => ?_) ?_
          · have h75 : a.eval (.tmp 75) = .bool true := hn.1
            clear hn
            refine wants_plain rfl ?_
            exact grown_assign (.tmp 75) rfl h75
          exact trivial
        intro W1 hkW1
        rintro _ rfl
        rintro _ rfl
        rintro _ rfl
        rintro _ rfl
        intro v53 h53
        intro v54 h54
        rintro _ rfl
        rintro _ rfl
        rintro _ rfl
        rintro _ rfl
        rintro _ rfl
        rintro _ rfl
        intro v61 h61
        rintro _ rfl
        intro v63 h63
        intro v64 h64
        rintro _ rfl
        rintro _ rfl
        rintro _ rfl
        rintro _ rfl
        rintro _ rfl
        rintro _ rfl
        rintro _ rfl
        rintro _ rfl
        rintro _ rfl
        rintro _ rfl
        rintro _ rfl
        rintro _ rfl
        refine fin_nil ?_
        simp only [Act.put, List.set_cons_zero, List.set_cons_succ, List.setIfInBounds_toArray]
        go_wp2_with fail
        go_ret
        exact ⟨rfl, ((unhide HK4).trans ((kp_drew w4).trans hkW1)).below (Nat.le_refl _) (by simp)⟩
      · have hj3 : ¬ (j : Int) < (L : Int) := by omega
        have hrun := unhide HRN
        go_wp2_with (at_builtin; refine wpList_append_rowv rfl (.tmp 40) (.tmp 44) rfl w.heap.size _ _ rfl ((unhide HRr).kept ((Kp.refl [] wr).alloc _) (by simp)) ⟨wr.heap.size, 0, none⟩ 2 [Value.slice X (n - p) (cb - p), Value.slice none 0 0] rfl (World.news_of_block (heap_alloc_new wr _)) (by simp [Value.oneCell']) (by simp; omega) (by have := (unhide HKr).size; simp; omega) ?_; intro ao3 m3 c3 w3 r3 s3)
        clear hrun
        have K3 := (unhide HRr).step (unhide HKr) (s3.after ((Kp.refl [] wr).alloc _))
        have R3 : RowV w3 w.heap.size (.slice ao3 m3 c3) (l2.map (·.1)) := by rw [unhide HL2]; simpa using r3
        refine (tagged_any tag _ l2 r (unhide HR2) w3 (lists_of_rowv R3 (by omega) (fun x hx => ⟨(unhide HL2S x hx).1.kept K3 (by simp), (unhide HL2S x hx).2⟩)) h0 h1 (by omega) (unhide HM2) ((unhide HG).kept K3 (by simp))).mono ?_
        rintro ee w4 ⟨a4, m4, c4, rfl, R4, K4⟩
        obtain rfl : m4 = 32 := by rw [R4.len, hrl]
        have HK4 := hide (K3.trans K4)
        have HX4 := hide R4.sl
        clear r3 s3 K3 R3 R4 K4
        have SLB : ∀ w', Kp [] w4.drew w' → Sl w' (.slice ab n cb) bs := fun w' h => (unhide B1).kept ((unhide HK4).trans ((kp_drew w4).trans h)) (by simp)
        have SLX : ∀ w', Kp [] w4.drew w' → Sl w' (.slice a4 32 c4) r := fun w' h => (unhide HX4).kept ((kp_drew w4).trans h) (by simp)
        have GL : ∀ w', Kp [] w4.drew w' → Gl w' := fun w' h => ((unhide HG).kept (unhide HK4) (by simp)).kept ((kp_drew w4).trans h) (by simp)
        go_wp2_with fail
        refine region_grow Tryd.mixed [Is (.slice a4 32 c4), Is (.string S), Is (.int .u8 tag), Is (.slice ab n cb), LsT [(.slice ab n cb, bs)], SlT (r), Is (.string S), Is (.bool true), Is (.bool true), Is (.slice a4 32 c4), Is (.string S), Is (.int .u8 tag), Full [tag], Is (.slice ab n cb), SlT (tag :: bs), SlT (r), Is (.string S), Is (.bool true), Is (.bool true), Is (.bool true), Is (.slice a4 32 c4), Is (.int .i64 32), Is (.bool true), Is (.bool true), Is (.bool true), Is (.bool true), Is (.bool true), Is (.bool true)] [[(11, none)], [(49, some 0)], [(2, none)], [(0, none)], [(52, some 3)], [(51, some 2), (53, some 4)], [(54, some 5)], [(50, some 1), (55, some 6)], [(56, some 7)], [(11, none), (57, some 8)], [(58, some 9), (57, some 8)], [(2, none), (57, some 8)], [(60, some 11), (57, some 8)], [(0, none), (57, some 8)], [(61, some 12), (62, some 13), (57, some 8)], [(63, some 14), (57, some 8)], [(64, some 15), (57, some 8)], [(59, some 10), (65, some 16), (57, some 8)], [(57, some 8), (66, some 17)], [(67, some 18)], [(11, none), (68, some 19)], [(69, some 20), (68, some 19)], [(70, some 21), (68, some 19)], [(68, some 19), (71, some 22)], [(72, some 23)], [(73, some 24)], [(73, some 24), (74, some 25)], [(75, some 26)]] (by kernel_rfl) ?_ ?_ ?_
        · simp only [List.mem_cons, List.not_mem_nil, or_false]
          intro R hR
          rcases hR with rfl | rfl | rfl | rfl | rfl | rfl | rfl | rfl | rfl | rfl | rfl | rfl | rfl | rfl | rfl | rfl | rfl | rfl | rfl | rfl | rfl | rfl | rfl | rfl | rfl | rfl | rfl | rfl <;> first | exact stable_is _ | exact stable_ls _ | exact stable_sl _ | exact stable_full _
        · refine steps_cons (fun a w hk hn => ?_) ?_
          · have h11 : a.eval (.tmp 11) = .slice a4 32 c4 := hn.1
            clear hn
            refine wants_plain rfl ?_
            exact grown_move (.tmp 11) rfl h11
          refine steps_cons (fun a w hk hn => ?_) ?_
          · have h49 : a.eval (.tmp 49) = .slice a4 32 c4 := hn.1
            clear hn
            refine wants_plain rfl ?_
            exact grown_conv (.tmp 49) _ _ 5 r rfl (by rw [h49]; exact SLX w hk) Tryd.underlying22 Tryd.underlying5 Tryd.underlying9 (congrArg Value.string (unhide HS).symm)
          refine steps_cons (fun a w hk hn => ?_) ?_
          · have h2 : a.eval (.tmp 2) = .int .u8 tag := hn.1
            clear hn
            refine wants_plain rfl ?_
            exact grown_move (.tmp 2) rfl h2
          refine steps_cons (fun a w hk hn => ?_) ?_
          · have h0 : a.eval (.tmp 0) = .slice ab n cb := hn.1
            clear hn
            refine wants_plain rfl ?_
            exact grown_move (.tmp 0) rfl h0
          refine steps_cons (fun a w hk hn => ?_) ?_
          · have h52 : a.eval (.tmp 52) = .slice ab n cb := hn.1
            clear hn
            refine wants_plain rfl ?_
            refine grown_run (v := .slice (some ⟨w.heap.size, 0, none⟩) 1 1) (w' := w.alloc (.cells #[.slice ab n cb] 22)) ?_ ((Kp.refl _ _).alloc _) ?_
            · obtain ⟨ρ, hρ, hc, hf, hg⟩ := eval_is a
              rw [hρ] at h52 ⊢
              simp [go_sem, h52]
            · refine lists_of_block (l := [(.slice ab n cb, bs)]) (heap_alloc_new w _) (by simp) (fun x hx => ?_)
              obtain rfl := List.mem_singleton.1 hx
              exact ⟨(SLB w hk).kept ((Kp.refl _ _).alloc _) (fun _ _ => List.not_mem_nil), unhide HBb⟩
          refine steps_cons (fun a w hk hn => ?_) ?_
          · have h51 : a.eval (.tmp 51) = .int .u8 tag := hn.1
            have h53 : (LsT [(.slice ab n cb, bs)]) (a.eval (.tmp 53)) w := hn.2.1
            clear hn
            refine wants_plain rfl ?_
            refine grown_call (f := 10) rfl Tryd.func10 (by kernel_rfl) (by kernel_rfl) ?_
            simp only [List.map_toArray, List.map_cons, List.map_nil, h51]
            refine (tagged_any tag _ _ r (unhide HR3) w h53 h0 h1 (by simp) (by intro x hx; obtain rfl := List.mem_singleton.1 hx; show bs.length ≤ 1000000; omega) (GL w hk)).mono ?_
            rintro e w' ⟨ao, mm, c, rfl, R, K⟩
            exact ⟨_, rfl, K, R.sl⟩
          refine steps_cons (fun a w hk hn => ?_) ?_
          · have h54 : Sl w (a.eval (.tmp 54)) (r) := hn.1
            clear hn
            refine wants_plain rfl ?_
            exact grown_conv (.tmp 54) _ _ 5 r rfl h54 Tryd.underlying22 Tryd.underlying5 Tryd.underlying9 (congrArg Value.string (unhide HS).symm)
          refine steps_cons (fun a w hk hn => ?_) ?_
          · have h50 : a.eval (.tmp 50) = .string S := hn.1
            have h55 : a.eval (.tmp 55) = .string S := hn.2.1
            clear hn
            refine wants_plain rfl ?_
            refine grown_run (v := .bool true) ?_ (Kp.refl _ _) rfl
            obtain ⟨ρ, hρ, hc, hf, hg⟩ := eval_is a
            rw [hρ] at h50 h55 ⊢
            simp [go_sem, h50, h55]
          refine steps_cons (fun a w hk hn => ?_) ?_
          · have h56 : a.eval (.tmp 56) = .bool true := hn.1
            clear hn
            refine wants_plain rfl ?_
            exact grown_move (.tmp 56) rfl h56
          refine steps_cons (fun a w hk hn => ?_) ?_
          · have h11 : a.eval (.tmp 11) = .slice a4 32 c4 := hn.1
            have h57 : a.eval (.tmp 57) = .bool true := hn.2.1
            clear hn
            refine wants_guard (d := 57) rfl rfl h57 ?_
            exact grown_move (.tmp 11) rfl h11
          refine steps_cons (fun a w hk hn => ?_) ?_
          · have h58 : a.eval (.tmp 58) = .slice a4 32 c4 := hn.1
            have h57 : a.eval (.tmp 57) = .bool true := hn.2.1
            clear hn
            refine wants_guard (d := 57) rfl rfl h57 ?_
            exact grown_conv (.tmp 58) _ _ 5 r rfl (by rw [h58]; exact SLX w hk) Tryd.underlying22 Tryd.underlying5 Tryd.underlying9 (congrArg Value.string (unhide HS).symm)
          refine steps_cons (fun a w hk hn => ?_) ?_
          · have h2 : a.eval (.tmp 2) = .int .u8 tag := hn.1
            have h57 : a.eval (.tmp 57) = .bool true := hn.2.1
            clear hn
            refine wants_guard (d := 57) rfl rfl h57 ?_
            exact grown_move (.tmp 2) rfl h2
          refine steps_cons (fun a w hk hn => ?_) ?_
          · have h60 : a.eval (.tmp 60) = .int .u8 tag := hn.1
            have h57 : a.eval (.tmp 57) = .bool true := hn.2.1
            clear hn
            refine wants_guard (d := 57) rfl rfl h57 ?_
            refine grown_run (v := .slice (some ⟨w.heap.size, 0, none⟩) 1 1) (w' := w.alloc (.cells #[.int .u8 tag] 5)) ?_ ((Kp.refl _ _).alloc _) ⟨⟨_, rfl⟩, one_block w tag⟩
            obtain ⟨ρ, hρ, hc, hf, hg⟩ := eval_is a
            rw [hρ] at h60 ⊢
            simp [go_sem, h60]
          refine steps_cons (fun a w hk hn => ?_) ?_
          · have h0 : a.eval (.tmp 0) = .slice ab n cb := hn.1
            have h57 : a.eval (.tmp 57) = .bool true := hn.2.1
            clear hn
            refine wants_guard (d := 57) rfl rfl h57 ?_
            exact grown_move (.tmp 0) rfl h0
          refine steps_cons (fun a w hk hn => ?_) ?_
          · have h61 : (Full [tag]) (a.eval (.tmp 61)) w := hn.1
            have h62 : a.eval (.tmp 62) = .slice ab n cb := hn.2.1
            have h57 : a.eval (.tmp 57) = .bool true := hn.2.2.1
            clear hn
            refine wants_guard (d := 57) rfl rfl h57 ?_
            exact grown_append_full (.tmp 61) (.tmp 62) [tag] bs rfl h61 (by rw [h62]; exact SLB w hk) (by simp; omega) (fun v w' h => h)
          refine steps_cons (fun a w hk hn => ?_) ?_
          · have h63 : Sl w (a.eval (.tmp 63)) (tag :: bs) := hn.1
            have h57 : a.eval (.tmp 57) = .bool true := hn.2.1
            clear hn
            refine wants_guard (d := 57) rfl rfl h57 ?_
            refine grown_call (f := 8) rfl Tryd.func8 (by kernel_rfl) (by kernel_rfl) ?_
            simp only [List.map_toArray, List.map_cons, List.map_nil]
            refine (sum_at _ (tag :: bs) r (unhide HR) w h63 (fun b hb => by rcases List.mem_cons.1 hb with rfl | hb; exact ⟨h0, h1⟩; exact unhide HBb b hb) (by simp; omega) (GL w hk)).mono ?_
            rintro e w' ⟨ao, mm, c, rfl, R, K⟩
            exact ⟨_, rfl, K, R.sl⟩
          refine steps_cons (fun a w hk hn => ?_) ?_
          · have h64 : Sl w (a.eval (.tmp 64)) (r) := hn.1
            have h57 : a.eval (.tmp 57) = .bool true := hn.2.1
            clear hn
            refine wants_guard (d := 57) rfl rfl h57 ?_
            exact grown_conv (.tmp 64) _ _ 5 r rfl h64 Tryd.underlying22 Tryd.underlying5 Tryd.underlying9 (congrArg Value.string (unhide HS).symm)
          refine steps_cons (fun a w hk hn => ?_) ?_
          · have h59 : a.eval (.tmp 59) = .string S := hn.1
            have h65 : a.eval (.tmp 65) = .string S := hn.2.1
            have h57 : a.eval (.tmp 57) = .bool true := hn.2.2.1
            clear hn
            refine wants_guard (d := 57) rfl rfl h57 ?_
            refine grown_run (v := .bool true) ?_ (Kp.refl _ _) rfl
            obtain ⟨ρ, hρ, hc, hf, hg⟩ := eval_is a
            rw [hρ] at h59 h65 ⊢
            simp [go_sem, h59, h65]
          refine steps_cons (fun a w hk hn => ?_) ?_
          · have h57 : a.eval (.tmp 57) = .bool true := hn.1
            have h66 : a.eval (.tmp 66) = .bool true := hn.2.1
            clear hn
            refine wants_plain rfl ?_
            exact grown_pick _ _ _ true rfl h57 h66
          refine steps_cons (fun a w hk hn => ?_) ?_
          · have h67 : a.eval (.tmp 67) = .bool true := hn.1
            clear hn
            refine wants_plain rfl ?_
            exact grown_move (.tmp 67) rfl h67
          refine steps_cons (fun a w hk hn => ?_) ?_
          · have h11 : a.eval (.tmp 11) = .slice a4 32 c4 := hn.1
            have h68 : a.eval (.tmp 68) = .bool true := hn.2.1
            clear hn
            refine wants_guard (d := 68) rfl rfl h68 ?_
            exact grown_move (.tmp 11) rfl h11
          refine steps_cons (fun a w hk hn => ?_) ?_
          · have h69 : a.eval (.tmp 69) = .slice a4 32 c4 := hn.1
            have h68 : a.eval (.tmp 68) = .bool true := hn.2.1
            clear hn
            refine wants_guard (d := 68) rfl rfl h68 ?_
            refine grown_run (v := .int .i64 32) ?_ (Kp.refl _ _) rfl
            obtain ⟨ρ, hρ, hc, hf, hg⟩ := eval_is a
            rw [hρ] at h69 ⊢
            simp [go_sem, h69]
          refine steps_cons (fun a w hk hn => ?_) ?_
          · have h70 : a.eval (.tmp 70) = .int .i64 32 := hn.1
            have h68 : a.eval (.tmp 68) = .bool true := hn.2.1
            clear hn
            refine wants_guard (d := 68) rfl rfl h68 ?_
            refine grown_run (v := .bool true) ?_ (Kp.refl _ _) rfl
            obtain ⟨ρ, hρ, hc, hf, hg⟩ := eval_is a
            rw [hρ] at h70 ⊢
            simp [go_sem, hc, h70]
          refine steps_cons (fun a w hk hn => ?_) ?_
          · have h68 : a.eval (.tmp 68) = .bool true := hn.1
            have h71 : a.eval (.tmp 71) = .bool true := hn.2.1
            clear hn
            refine wants_plain rfl ?_
            exact grown_pick _ _ _ true rfl h68 h71
          refine steps_cons (fun a w hk hn => ?_) ?_
          · have h72 : a.eval (.tmp 72) = .bool true := hn.1
            clear hn
            refine wants_plain rfl ?_
            exact grown_move (.tmp 72) rfl h72
          refine steps_cons (fun a w hk hn => ?_) ?_
          · have h73 : a.eval (.tmp 73) = .bool true := hn.1
            clear hn
            refine wants_guard (d := 73) rfl rfl h73 ?_
            refine grown_call (f := 14) rfl Tryd.func14 (by kernel_rfl) (by kernel_rfl) ?_
            simp only [List.map_toArray, List.map_nil]
            refine (known_any w (GL w hk)).mono ?_
            rintro e w' ⟨rfl, K⟩
            exact ⟨_, rfl, K, rfl⟩
          refine steps_cons (fun a w hk hn => ?_) ?_
          · have h73 : a.eval (.tmp 73) = .bool true := hn.1
            have h74 : a.eval (.tmp 74) = .bool true := hn.2.1
            clear hn
            refine wants_plain rfl ?_
            exact grown_pick _ _ _ true rfl h73 h74
          refine steps_cons (fun a w hk hn => ?_) ?_
          · have h75 : a.eval (.tmp 75) = .bool true := hn.1
            clear hn
            refine wants_plain rfl ?_
            exact grown_assign (.tmp 75) rfl h75
          exact trivial
        intro W1 hkW1
        rintro _ rfl
        rintro _ rfl
        rintro _ rfl
        rintro _ rfl
        intro v53 h53
        intro v54 h54
        rintro _ rfl
        rintro _ rfl
        rintro _ rfl
        rintro _ rfl
        rintro _ rfl
        rintro _ rfl
        intro v61 h61
        rintro _ rfl
        intro v63 h63
        intro v64 h64
        rintro _ rfl
        rintro _ rfl
        rintro _ rfl
        rintro _ rfl
        rintro _ rfl
        rintro _ rfl
        rintro _ rfl
        rintro _ rfl
        rintro _ rfl
        rintro _ rfl
        rintro _ rfl
        rintro _ rfl
        refine fin_nil ?_
        simp only [Act.put, List.set_cons_zero, List.set_cons_succ, List.setIfInBounds_toArray]
        go_wp2_with fail
        go_ret
        exact ⟨rfl, ((unhide HK4).trans ((kp_drew w4).trans hkW1)).below (Nat.le_refl _) (by simp)⟩

set_option maxRecDepth 100000 in
theorem lifted (os : Os) (started : os.Started) (H : Type) (enc : TypeId × Value → H) :
    ReturnsInHanded {} Tryd.checked os 5 .any (fun w args => (Rows.hashJoinsSpec.pre enc Tryd.prog Tryd.f5 [] false w args ∧ laidMetH Tryd.prog laid1 w) ∧ sizedMet enc Tryd.prog Tryd.f5 (OpenSpec.ofChange Rows.hashJoinsSpec) false w args) (Rows.hashJoinsSpec.post enc Tryd.prog Tryd.f5 false true false false) := by
  refine returnsInHanded_of_change_and (C := Tryd.checked) (X := fun w _ => laidMetH Tryd.prog laid1 w) (fun _ _ _ hh h => h.of_heap hh) own started (by kernel_rfl) Tryd.func5
    (ChangeSpec.witness_shaped (enc := enc) (C := Tryd.checked) (os := os) (X := fun w _ => laidMetH Tryd.prog laid1 w) false (World.doorLaid Tryd.prog 400 os) #[.slice none 0 0, .slice none 0 0, .int .u8 0] 8 rfl (World.shaped_of_RefB (by kernel_rfl) (by kernel_rfl)) (by kernel_rfl) (by kernel_rfl) (by kernel_rfl) (door_met os _)) ?_
  intro W base args ds gs before hval0 hW hcnd hsz0 hL _
  have hG := gl_of_laid hL
  have hval : ∀ (j : Nat) t v, Tryd.f5.params[j]? = some t → args[j]? = some v → Value.okWide Tryd.prog W .any base t v := hval0
  have hW' := hW
  obtain ⟨p, q, hA0, hV, rfl, hfz, hnd⟩ := hW
  have hA : DataW.TrodAll enc Tryd.prog W 0 (fun _ => true) true Tryd.f5.params.toList args.toList ds p := hA0
  rw [Tryd.params5] at hA hval
  obtain ⟨v0, vs0, d0, ds0, p0, q0, hargs, rfl, rfl, h0, r0⟩ := trodAll_cons hA
  obtain ⟨v1, vs1, d1, ds1, p1, q1, rfl, rfl, rfl, h1, r1⟩ := trodAll_cons r0
  obtain ⟨v2, vs2, d2, ds2, p2, q2, rfl, rfl, rfl, h2, r2⟩ := trodAll_cons r1
  obtain ⟨rfl, rfl, rfl⟩ := trodAll_nil r2
  obtain rfl : args = #[v0, v1, v2] := by cases args; simp_all
  obtain ⟨rfl, rfl⟩ := trodVars_none hV
  obtain ⟨a0, len0, cap0, rfl⟩ := okWide_slice Tryd.underlying22 (hval 0 22 v0 rfl rfl)
  have k0 := h0
  have lt0 : ∀ x ∈ p0, x.block < W.heap.size := by obtain ⟨m, hm⟩ := k0; exact DataW.trod_lt m _ _ _ hm
  obtain ⟨l0, s0, b0⟩ : ∃ bs, Sl W (.slice a0 len0 cap0) bs ∧ Bs bs := by
    obtain ⟨fuel, hf⟩ := h0
    exact bytes_of_trod (by simpa [Value.cells] using hf)
  obtain ⟨a1, len1, cap1, rfl⟩ := okWide_slice Tryd.underlying31 (hval 1 31 v1 rfl rfl)
  have k1 := h1
  have lt1 : ∀ x ∈ p1, x.block < W.heap.size := by obtain ⟨m, hm⟩ := k1; exact DataW.trod_lt m _ _ _ hm
  obtain ⟨l1, s1⟩ : ∃ l, Ints W (.slice a1 len1 cap1) l := by
    obtain ⟨fuel, hf⟩ := h1
    exact ints_of_trod (by simpa [Value.cells] using hf)
  obtain ⟨a2, rfl, rfl, rfl, w2⟩ := open_int Tryd.underlying5 (hval 2 5 v2 rfl rfl) h2
  clear hA0 hval0
  refine (walk (.slice a0 len0 cap0) l0 (.slice a1 len1 cap1) l1 a2 W hG s0 b0 s1 (bounds_u8 w2)).mono fun e W' ⟨he, bel⟩ => ?_
  subst he
  exact ⟨_, rfl, _, _, _, [], _, [], hW', trodAll_mk1 (shut_bool Tryd.underlying4 _), (trodAll_cons_mk (Below.trod laidOut (by kernel_rfl) (of_decide_eq_true (by kernel_rfl)) k0 bel lt0) (trodAll_cons_mk (Below.trod laidOut (by kernel_rfl) (of_decide_eq_true (by kernel_rfl)) k1 bel lt1) (trodAll_cons_mk (shut_int Tryd.underlying5 w2) trodAll_mk0))), rfl, bel.frame _, fun h => by cases h⟩

theorem over : Rows.hashJoinsRow.holds Tryd.pinned (OpenSpec.ofChange Rows.hashJoinsSpec) :=
  OpenClaim.holds_of_wide 5 Tryd.f5 rfl rfl rfl rfl rfl rfl rfl ⟨rfl, rfl, rfl, rfl, rfl⟩ rfl rfl rfl rfl rfl (by kernel_rfl) Tryd.func5 (by kernel_rfl)
    (of_decide_eq_true (by kernel_rfl)) (by unfold Func.isWrapper; first | (rw [if_pos (by decide +kernel)]; kernel_rfl) | (rw [if_neg (by decide +kernel)]; exact ⟨rfl, rfl⟩))
    (fun os started H enc _ => lifted os started H enc)
end Go.Proofs.YthmbeamphahlmaaDoor.hashJoins

namespace Go.Proofs.YthmbeamphahlmaaDoor
/-- The given statement: the tied card. -/
theorem HashJoins_holds : Rows.HashJoinsCardSaid :=
  Claim7.holds_tied_plain_at .later [] [.data] true Rows.hashJoinsCard.stood.harness false
    hashJoins.over (fun _ h => by cases h) (by kernel_rfl) (fun _ h => by cases h) hashJoins_row_tie rfl ⟨rfl, rfl⟩ (by kernel_rfl) rfl
    (fun f fn hf hfn => by
      obtain rfl : f = 5 := Option.some.inj ((show Tryd.prog.funcNamed "broadsheet/broadsheetlaw2.HashJoins" = some 5 by kernel_rfl).symm.trans hf) |>.symm
      obtain rfl : fn = Tryd.f5 := (Option.some.inj (Tryd.func5.symm.trans hfn)).symm
      exact ⟨by kernel_rfl, fun j t ht => by
        rw [Tryd.params5] at ht
        have hm : t ∈ ([22, 31, 5] : List TypeId) := by simpa using Array.mem_of_getElem? ht
        have hall : (([22, 31, 5] : List TypeId).all fun u => !Tryd.prog.wantsStandIn u) = true := by kernel_rfl
        exact (show Tryd.prog.wantsStandIn t = false by simpa using List.all_eq_true.1 hall t hm)⟩)
    (by kernel_rfl)
#print axioms HashJoins_holds
end Go.Proofs.YthmbeamphahlmaaDoor
