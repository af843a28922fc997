/-
  The statement HashTellsCardSaid: for all rows of bytes and every byte the law function HashTells returns true and leaves its arguments as they were; the table hash.roundWords starts as the program's text lays it (tied). No other condition.
-/
import Derived.Test.YthmbeamphahlmaaDoorHAux
import Derived.Test.YthmbeamphahlmaaDoorHRefTag
import Derived.Test.YthmbeamphahlmaaDoorHRoomy
import Derived.Test.YthmbeamphahlmaaDoorHLawHex
import Derived.Test.YthmbeamphahlmaaDoorRGrowLs
import Derived.Test.YthmbeamphahlmaaDoorTie
import Derived.Test.YthmbeamphahlmaaDoorCards
import Derived.SevenTiedAt
namespace Go.Proofs.YthmbeamphahlmaaDoor.hashTells
open Go.ChangeShapes Go.WideShapes Go.ChangeAt Go.RowKit
open Go.Proofs.YthmbeamphahlmaaDoor
set_option linter.unusedVariables false

set_option maxRecDepth 100000 in
set_option maxHeartbeats 4000000 in
theorem walk (v0 : Value) (bs0 : List Int) (v1 : Value) (cs0 : List Int) (tag : Int) (w : World) (hG : Gl w) (hb0 : Sl w v0 bs0) (hB0 : Bs bs0) (hc0 : Sl w v1 cs0) (hC0 : Bs cs0) (htag : 0 ≤ tag ∧ tag ≤ 255) :
    Calls Tryd.prog 4 #[v0, v1, .int .u8 tag] w fun e w' => e = .returned (.bool true) ∧ Below w.heap.size w w' := by
  have HG := hide hG
  have hpos := hG.pos
  obtain ⟨h0, h1⟩ := htag
  obtain ⟨bs, hbs⟩ : ∃ bs, bs = bs0.take 1000 := ⟨_, rfl⟩
  obtain ⟨cs, hcs⟩ : ∃ cs, cs = cs0.take 300 := ⟨_, rfl⟩
  have hbl : bs.length ≤ 1000 := by rw [hbs]; simp; omega
  have hcl : cs.length ≤ 300 := by rw [hcs]; simp; omega
  have HBb : Hid (Bs bs) := by rw [hbs]; exact hB0.take _
  have HBc : Hid (Bs cs) := by rw [hcs]; exact hC0.take _
  have kb := cut_any v0 bs0 1000 w hb0
  have kc := cut_any v1 cs0 300 w hc0
  rw [← hbs] at kb
  rw [← hcs] at kc
  have KB := hide kb
  have KC := hide kc
  have HB0 := hide hb0
  have HC0 := hide hc0
  clear hG kb kc hb0 hc0 hB0 hC0 hbs hcs
  go_enter Tryd.func4, Tryd.ntmps4
  go_wp2_with fail
  refine (unhide KB).mono ?_
  rintro ee w1 ⟨ab, cb, rfl, hT1, hw⟩
  subst w1
  have B1 := hide (hT1 _ (unhide HB0))
  go_wp2_with fail
  refine (unhide KC).mono ?_
  rintro ee w1 ⟨ac, cc, rfl, hT2, hw⟩
  subst w1
  have C1 := hide (hT2 _ (unhide HC0))
  clear hT1 hT2 KB KC HB0 HC0
  obtain ⟨n, hn⟩ : ∃ n, n = bs.length := ⟨_, rfl⟩
  obtain ⟨m, hm⟩ : ∃ m, m = cs.length := ⟨_, rfl⟩
  rw [← hn] at B1 ⊢
  rw [← hm] at C1 ⊢
  have HN := hide hn
  clear hn hm
  go_wp2_with fail
  refine (roomy_any _ bs 165 _ (unhide B1) (by omega)).mono ?_
  rintro ee w2 ⟨g, nf, rfl, hnf0, O2, K2⟩
  have hnf : (n : Int) ≤ (nf : Int) := by have := unhide HN; omega
  have HK2 := hide K2
  have F2 := hide (Sl.of_owns O2)
  obtain ⟨r1, hr1⟩ : ∃ r, r = sha bs := ⟨_, rfl⟩
  obtain ⟨r2, hr2⟩ : ∃ r, r = sha (tag :: cat [(Value.slice ab n cb, bs), (Value.slice ac m cc, cs)]) := ⟨_, rfl⟩
  obtain ⟨S1, hS1⟩ : ∃ S, S = strOfNums r1 := ⟨_, rfl⟩
  obtain ⟨S2, hS2⟩ : ∃ S, S = strOfNums r2 := ⟨_, rfl⟩
  obtain ⟨SH, hSH⟩ : ∃ S, S = strOfNums (hexs cs) := ⟨_, rfl⟩
  obtain ⟨SB, hSB⟩ : ∃ S, S = strOfNums bs := ⟨_, rfl⟩
  obtain ⟨SC, hSC⟩ : ∃ S, S = strOfNums cs := ⟨_, rfl⟩
  obtain ⟨q, hq⟩ : ∃ q, q = (SB.toList == SC.toList) := ⟨_, rfl⟩
  have HR1 := hide hr1
  have HR2 := hide hr2
  have HS1 := hide hS1
  have HS2 := hide hS2
  have HSH := hide hSH
  have HSB := hide hSB
  have HSC := hide hSC
  have HQ := hide hq
  clear hr1 hr2 hS1 hS2 hSH hSB hSC hq hnf0 O2 K2
  have SLB : ∀ w', Kp [] w2.drew w' → Sl w' (.slice ab n cb) bs := fun w' h => (unhide B1).kept ((unhide HK2).trans ((kp_drew w2).trans h)) (by simp)
  have SLC : ∀ w', Kp [] w2.drew w' → Sl w' (.slice ac m cc) cs := fun w' h => (unhide C1).kept ((unhide HK2).trans ((kp_drew w2).trans h)) (by simp)
  have SLF : ∀ w', Kp [] w2.drew w' → Sl w' (.slice (some ⟨g, 0, none⟩) nf nf) (bs ++ List.replicate 80 165) := fun w' h => (unhide F2).kept ((kp_drew w2).trans h) (by simp)
  have SLP : ∀ w', Kp [] w2.drew w' → Sl w' (.slice (some ⟨g, 0, none⟩) n nf) bs := fun w' h => by
    have t := (SLF w' h).take bs.length (by simp)
    rw [List.take_left] at t
    rw [unhide HN]
    exact t
  have GL : ∀ w', Kp [] w2.drew w' → Gl w' := fun w' h => ((unhide HG).kept (unhide HK2) (by simp)).kept ((kp_drew w2).trans h) (by simp)
  go_wp2_with fail
  refine region_grow Tryd.mixed [Is (.slice (some ⟨g, 0, none⟩) nf nf), Is (.slice ab n cb), Is (.int .i64 n), Is (.slice (some ⟨g, 0, none⟩) n nf), SlT (r1), Is (.string S1), Is (.slice ab n cb), SlT (r1), Is (.string S1), Is (.bool true), Is (.bool true), Is (.int .u8 tag), Is (.slice ab n cb), Is (.slice ac m cc), LsT [(.slice ab n cb, bs), (.slice ac m cc, cs)], SlT (r2), Is (.string S2), Is (.int .u8 tag), Is (.slice ab n cb), Is (.slice ac m cc), LsT [(.slice ab n cb, bs), (.slice ac m cc, cs)], SlT (r2), Is (.string S2), Is (.bool true), Is (.bool true), Is (.bool true), Is (.slice ac m cc), Is (.string SH), Is (.slice ac m cc), Is (.string SH), Is (.bool true), Is (.bool true), Is (.bool true), Is (.slice ab n cb), Is (.slice ac m cc), Is (.bool q), Is (.slice ab n cb), Is (.string SB), Is (.slice ac m cc), Is (.string SC), Is (.bool q), Is (.bool true), Is (.bool true), Is (.bool true), Is (.slice ab n cb), Is (.slice ab n cb), Is (.bool true), Is (.bool true), Is (.bool true), Is (.slice (some ⟨g, 0, none⟩) nf nf), Is (.slice ab n cb), Is (.bool true), Is (.bool true), Is (.bool true), Is (.bool true), Is (.bool true), Is (.bool true)] [[(7, none)], [(0, none)], [(15, some 1)], [(14, some 0), (16, some 2)], [(17, some 3)], [(18, some 4)], [(0, none)], [(20, some 6)], [(21, some 7)], [(19, some 5), (22, some 8)], [(23, some 9)], [(2, none), (24, some 10)], [(0, none), (24, some 10)], [(1, none), (24, some 10)], [(26, some 12), (27, some 13), (24, some 10)], [(25, some 11), (28, some 14), (24, some 10)], [(29, some 15), (24, some 10)], [(2, none), (24, some 10)], [(0, none), (24, some 10)], [(1, none), (24, some 10)], [(32, some 18), (33, some 19), (24, some 10)], [(31, some 17), (34, some 20), (24, some 10)], [(35, some 21), (24, some 10)], [(30, some 16), (36, some 22), (24, some 10)], [(24, some 10), (37, some 23)], [(38, some 24)], [(1, none), (39, some 25)], [(40, some 26), (39, some 25)], [(1, none), (39, some 25)], [(42, some 28), (39, some 25)], [(41, some 27), (43, some 29), (39, some 25)], [(39, some 25), (44, some 30)], [(45, some 31)], [(0, none), (46, some 32)], [(1, none), (46, some 32)], [(47, some 33), (48, some 34), (46, some 32)], [(0, none), (46, some 32)], [(50, some 36), (46, some 32)], [(1, none), (46, some 32)], [(52, some 38), (46, some 32)], [(51, some 37), (53, some 39), (46, some 32)], [(49, some 35), (54, some 40), (46, some 32)], [(46, some 32), (55, some 41)], [(56, some 42)], [(0, none), (57, some 43)], [(0, none), (57, some 43)], [(58, some 44), (59, some 45), (57, some 43)], [(57, some 43), (60, some 46)], [(61, some 47)], [(7, none), (62, some 48)], [(0, none), (62, some 48)], [(63, some 49), (64, some 50), (62, some 48)], [(62, some 48), (65, some 51)], [(66, some 52)], [(67, some 53)], [(67, some 53), (68, some 54)], [(69, some 55)]] (by kernel_rfl) ?_ ?_ ?_
  · simp only [List.mem_cons, List.not_mem_nil, or_false]
    intro R hR
    rcases hR with rfl | rfl | rfl | rfl | rfl | rfl | rfl | rfl | rfl | rfl | rfl | rfl | rfl | rfl | rfl | rfl | rfl | rfl | rfl | rfl | rfl | rfl | rfl | rfl | rfl | rfl | rfl | rfl | rfl | rfl | rfl | rfl | rfl | rfl | rfl | rfl | rfl | rfl | rfl | rfl | rfl | rfl | rfl | rfl | rfl | rfl | rfl | rfl | rfl | rfl | rfl | rfl | rfl | rfl | rfl | rfl | rfl <;> first | exact stable_is _ | exact stable_sl _ | exact stable_ls _
  · refine steps_cons (fun a w hk hn => ?_) ?_
    · have h7 : a.eval (.tmp 7) = .slice (some ⟨g, 0, none⟩) nf nf := hn.1
      clear hn
      refine wants_plain rfl ?_
      exact grown_move (.tmp 7) rfl h7
    refine steps_cons (fun a w hk hn => ?_) ?_
    · have h0 : a.eval (.tmp 0) = .slice ab n cb := hn.1
      clear hn
      refine wants_plain rfl ?_
      exact grown_move (.tmp 0) rfl h0
    refine steps_cons (fun a w hk hn => ?_) ?_
    · have h15 : a.eval (.tmp 15) = .slice ab n cb := hn.1
      clear hn
      refine wants_plain rfl ?_
      refine grown_run (v := .int .i64 n) ?_ (Kp.refl _ _) rfl
      obtain ⟨ρ, hρ, hc, hf, hg⟩ := eval_is a
      rw [hρ] at h15 ⊢
      simp [go_sem, h15]
    refine steps_cons (fun a w hk hn => ?_) ?_
    · have h14 : a.eval (.tmp 14) = .slice (some ⟨g, 0, none⟩) nf nf := hn.1
      have h16 : a.eval (.tmp 16) = .int .i64 n := hn.2.1
      clear hn
      refine wants_plain rfl ?_
      refine grown_run (v := .slice (some ⟨g, 0, none⟩) n nf) ?_ (Kp.refl _ _) rfl
      obtain ⟨ρ, hρ, hc, hf, hg⟩ := eval_is a
      rw [hρ] at h14 h16 ⊢
      simp [go_sem, h14, h16, hnf]
    refine steps_cons (fun a w hk hn => ?_) ?_
    · have h17 : a.eval (.tmp 17) = .slice (some ⟨g, 0, none⟩) n nf := hn.1
      clear hn
      refine wants_plain rfl ?_
      refine grown_call (f := 8) rfl Tryd.func8 (by kernel_rfl) (by kernel_rfl) ?_
      simp only [List.map_toArray, List.map_cons, List.map_nil, h17]
      refine (sum_at _ bs r1 (unhide HR1) w (SLP w hk) (unhide HBb) (by omega) (GL w hk)).mono ?_
      rintro e w' ⟨ao, mm, c, rfl, R, K⟩
      exact ⟨_, rfl, K, R.sl⟩
    refine steps_cons (fun a w hk hn => ?_) ?_
    · have h18 : Sl w (a.eval (.tmp 18)) (r1) := hn.1
      clear hn
      refine wants_plain rfl ?_
      exact grown_conv (.tmp 18) _ _ 5 r1 rfl h18 Tryd.underlying22 Tryd.underlying5 Tryd.underlying9 (congrArg Value.string (unhide HS1).symm)
    refine steps_cons (fun a w hk hn => ?_) ?_
    · have h0 : a.eval (.tmp 0) = .slice ab n cb := hn.1
      clear hn
      refine wants_plain rfl ?_
      exact grown_move (.tmp 0) rfl h0
    refine steps_cons (fun a w hk hn => ?_) ?_
    · have h20 : a.eval (.tmp 20) = .slice ab n cb := hn.1
      clear hn
      refine wants_plain rfl ?_
      refine grown_call (f := 9) rfl Tryd.func9 (by kernel_rfl) (by kernel_rfl) ?_
      simp only [List.map_toArray, List.map_cons, List.map_nil, h20]
      refine (refsum_at _ bs r1 (unhide HR1) w (SLB w hk) (unhide HBb) (by omega)).mono ?_
      rintro e w' ⟨ao, mm, c, rfl, R, K⟩
      exact ⟨_, rfl, K, R.sl⟩
    refine steps_cons (fun a w hk hn => ?_) ?_
    · have h21 : Sl w (a.eval (.tmp 21)) (r1) := hn.1
      clear hn
      refine wants_plain rfl ?_
      exact grown_conv (.tmp 21) _ _ 5 r1 rfl h21 Tryd.underlying22 Tryd.underlying5 Tryd.underlying9 (congrArg Value.string (unhide HS1).symm)
    refine steps_cons (fun a w hk hn => ?_) ?_
    · have h19 : a.eval (.tmp 19) = .string S1 := hn.1
      have h22 : a.eval (.tmp 22) = .string S1 := hn.2.1
      clear hn
      refine wants_plain rfl ?_
      refine grown_run (v := .bool true) ?_ (Kp.refl _ _) rfl
      obtain ⟨ρ, hρ, hc, hf, hg⟩ := eval_is a
      rw [hρ] at h19 h22 ⊢
      simp [go_sem, h19, h22]
    refine steps_cons (fun a w hk hn => ?_) ?_
    · have h23 : a.eval (.tmp 23) = .bool true := hn.1
      clear hn
      refine wants_plain rfl ?_
      exact grown_move (.tmp 23) rfl h23
    refine steps_cons (fun a w hk hn => ?_) ?_
    · have h2 : a.eval (.tmp 2) = .int .u8 tag := hn.1
      have h24 : a.eval (.tmp 24) = .bool true := hn.2.1
      clear hn
      refine wants_guard (d := 24) rfl rfl h24 ?_
      exact grown_move (.tmp 2) rfl h2
    refine steps_cons (fun a w hk hn => ?_) ?_
    · have h0 : a.eval (.tmp 0) = .slice ab n cb := hn.1
      have h24 : a.eval (.tmp 24) = .bool true := hn.2.1
      clear hn
      refine wants_guard (d := 24) rfl rfl h24 ?_
      exact grown_move (.tmp 0) rfl h0
    refine steps_cons (fun a w hk hn => ?_) ?_
    · have h1 : a.eval (.tmp 1) = .slice ac m cc := hn.1
      have h24 : a.eval (.tmp 24) = .bool true := hn.2.1
      clear hn
      refine wants_guard (d := 24) rfl rfl h24 ?_
      exact grown_move (.tmp 1) rfl h1
    refine steps_cons (fun a w hk hn => ?_) ?_
    · have h26 : a.eval (.tmp 26) = .slice ab n cb := hn.1
      have h27 : a.eval (.tmp 27) = .slice ac m cc := hn.2.1
      have h24 : a.eval (.tmp 24) = .bool true := hn.2.2.1
      clear hn
      refine wants_guard (d := 24) rfl rfl h24 ?_
      refine grown_run (v := .slice (some ⟨w.heap.size, 0, none⟩) 2 2) (w' := w.alloc (.cells #[.slice ab n cb, .slice ac m cc] 22)) ?_ ((Kp.refl _ _).alloc _) ?_
      · obtain ⟨ρ, hρ, hc, hf, hg⟩ := eval_is a
        rw [hρ] at h26 h27 ⊢
        simp [go_sem, h26, h27]
      · refine lists_of_block (l := [(.slice ab n cb, bs), (.slice ac m cc, cs)]) (heap_alloc_new w _) (by simp) (fun x hx => ?_)
        simp only [List.mem_cons, List.not_mem_nil, or_false] at hx
        rcases hx with rfl | rfl
        · exact ⟨(SLB w hk).kept ((Kp.refl _ _).alloc _) (fun _ _ => List.not_mem_nil), unhide HBb⟩
        · exact ⟨(SLC w hk).kept ((Kp.refl _ _).alloc _) (fun _ _ => List.not_mem_nil), unhide HBc⟩
    refine steps_cons (fun a w hk hn => ?_) ?_
    · have h25 : a.eval (.tmp 25) = .int .u8 tag := hn.1
      have h28 : (LsT [(.slice ab n cb, bs), (.slice ac m cc, cs)]) (a.eval (.tmp 28)) w := hn.2.1
      have h24 : a.eval (.tmp 24) = .bool true := hn.2.2.1
      clear hn
      refine wants_guard (d := 24) rfl rfl h24 ?_
      refine grown_call (f := 10) rfl Tryd.func10 (by kernel_rfl) (by kernel_rfl) ?_
      simp only [List.map_toArray, List.map_cons, List.map_nil, h25]
      refine (tagged_any tag _ _ r2 (unhide HR2) w h28 h0 h1 (by simp) (by intro x hx; simp only [List.mem_cons, List.not_mem_nil, or_false] at hx; rcases hx with rfl | rfl; (show bs.length ≤ 1000000; omega); (show cs.length ≤ 1000000; omega)) (GL w hk)).mono ?_
      rintro e w' ⟨ao, mm, c, rfl, R, K⟩
      exact ⟨_, rfl, K, R.sl⟩
    refine steps_cons (fun a w hk hn => ?_) ?_
    · have h29 : Sl w (a.eval (.tmp 29)) (r2) := hn.1
      have h24 : a.eval (.tmp 24) = .bool true := hn.2.1
      clear hn
      refine wants_guard (d := 24) rfl rfl h24 ?_
      exact grown_conv (.tmp 29) _ _ 5 r2 rfl h29 Tryd.underlying22 Tryd.underlying5 Tryd.underlying9 (congrArg Value.string (unhide HS2).symm)
    refine steps_cons (fun a w hk hn => ?_) ?_
    · have h2 : a.eval (.tmp 2) = .int .u8 tag := hn.1
      have h24 : a.eval (.tmp 24) = .bool true := hn.2.1
      clear hn
      refine wants_guard (d := 24) rfl rfl h24 ?_
      exact grown_move (.tmp 2) rfl h2
    refine steps_cons (fun a w hk hn => ?_) ?_
    · have h0 : a.eval (.tmp 0) = .slice ab n cb := hn.1
      have h24 : a.eval (.tmp 24) = .bool true := hn.2.1
      clear hn
      refine wants_guard (d := 24) rfl rfl h24 ?_
      exact grown_move (.tmp 0) rfl h0
    refine steps_cons (fun a w hk hn => ?_) ?_
    · have h1 : a.eval (.tmp 1) = .slice ac m cc := hn.1
      have h24 : a.eval (.tmp 24) = .bool true := hn.2.1
      clear hn
      refine wants_guard (d := 24) rfl rfl h24 ?_
      exact grown_move (.tmp 1) rfl h1
    refine steps_cons (fun a w hk hn => ?_) ?_
    · have h32 : a.eval (.tmp 32) = .slice ab n cb := hn.1
      have h33 : a.eval (.tmp 33) = .slice ac m cc := hn.2.1
      have h24 : a.eval (.tmp 24) = .bool true := hn.2.2.1
      clear hn
      refine wants_guard (d := 24) rfl rfl h24 ?_
      refine grown_run (v := .slice (some ⟨w.heap.size, 0, none⟩) 2 2) (w' := w.alloc (.cells #[.slice ab n cb, .slice ac m cc] 22)) ?_ ((Kp.refl _ _).alloc _) ?_
      · obtain ⟨ρ, hρ, hc, hf, hg⟩ := eval_is a
        rw [hρ] at h32 h33 ⊢
        simp [go_sem, h32, h33]
      · refine lists_of_block (l := [(.slice ab n cb, bs), (.slice ac m cc, cs)]) (heap_alloc_new w _) (by simp) (fun x hx => ?_)
        simp only [List.mem_cons, List.not_mem_nil, or_false] at hx
        rcases hx with rfl | rfl
        · exact ⟨(SLB w hk).kept ((Kp.refl _ _).alloc _) (fun _ _ => List.not_mem_nil), unhide HBb⟩
        · exact ⟨(SLC w hk).kept ((Kp.refl _ _).alloc _) (fun _ _ => List.not_mem_nil), unhide HBc⟩
    refine steps_cons (fun a w hk hn => ?_) ?_
    · have h31 : a.eval (.tmp 31) = .int .u8 tag := hn.1
      have h34 : (LsT [(.slice ab n cb, bs), (.slice ac m cc, cs)]) (a.eval (.tmp 34)) w := hn.2.1
      have h24 : a.eval (.tmp 24) = .bool true := hn.2.2.1
      clear hn
      refine wants_guard (d := 24) rfl rfl h24 ?_
      refine grown_call (f := 11) rfl Tryd.func11 (by kernel_rfl) (by kernel_rfl) ?_
      simp only [List.map_toArray, List.map_cons, List.map_nil, h31]
      refine (reftagged_any tag _ _ r2 (unhide HR2) w h34 h0 h1 (by simp) (by intro x hx; simp only [List.mem_cons, List.not_mem_nil, or_false] at hx; rcases hx with rfl | rfl; (show bs.length ≤ 1000000; omega); (show cs.length ≤ 1000000; omega))).mono ?_
      rintro e w' ⟨ao, mm, c, rfl, R, K⟩
      exact ⟨_, rfl, K, R.sl⟩
    refine steps_cons (fun a w hk hn => ?_) ?_
    · have h35 : Sl w (a.eval (.tmp 35)) (r2) := hn.1
      have h24 : a.eval (.tmp 24) = .bool true := hn.2.1
      clear hn
      refine wants_guard (d := 24) rfl rfl h24 ?_
      exact grown_conv (.tmp 35) _ _ 5 r2 rfl h35 Tryd.underlying22 Tryd.underlying5 Tryd.underlying9 (congrArg Value.string (unhide HS2).symm)
    refine steps_cons (fun a w hk hn => ?_) ?_
    · have h30 : a.eval (.tmp 30) = .string S2 := hn.1
      have h36 : a.eval (.tmp 36) = .string S2 := hn.2.1
      have h24 : a.eval (.tmp 24) = .bool true := hn.2.2.1
      clear hn
      refine wants_guard (d := 24) rfl rfl h24 ?_
      refine grown_run (v := .bool true) ?_ (Kp.refl _ _) rfl
      obtain ⟨ρ, hρ, hc, hf, hg⟩ := eval_is a
      rw [hρ] at h30 h36 ⊢
      simp [go_sem, h30, h36]
    refine steps_cons (fun a w hk hn => ?_) ?_
    · have h24 : a.eval (.tmp 24) = .bool true := hn.1
      have h37 : a.eval (.tmp 37) = .bool true := hn.2.1
      clear hn
      refine wants_plain rfl ?_
      exact grown_pick _ _ _ true rfl h24 h37
    refine steps_cons (fun a w hk hn => ?_) ?_
    · have h38 : a.eval (.tmp 38) = .bool true := hn.1
      clear hn
      refine wants_plain rfl ?_
      exact grown_move (.tmp 38) rfl h38
    refine steps_cons (fun a w hk hn => ?_) ?_
    · have h1 : a.eval (.tmp 1) = .slice ac m cc := hn.1
      have h39 : a.eval (.tmp 39) = .bool true := hn.2.1
      clear hn
      refine wants_guard (d := 39) rfl rfl h39 ?_
      exact grown_move (.tmp 1) rfl h1
    refine steps_cons (fun a w hk hn => ?_) ?_
    · have h40 : a.eval (.tmp 40) = .slice ac m cc := hn.1
      have h39 : a.eval (.tmp 39) = .bool true := hn.2.1
      clear hn
      refine wants_guard (d := 39) rfl rfl h39 ?_
      refine grown_call (f := 12) rfl Tryd.func12 (by kernel_rfl) (by kernel_rfl) ?_
      simp only [List.map_toArray, List.map_cons, List.map_nil, h40]
      refine (hex_at _ cs SH (unhide HSH) w (SLC w hk) (unhide HBc) (by omega)).mono ?_
      rintro e w' ⟨rfl, K⟩
      exact ⟨_, rfl, K, rfl⟩
    refine steps_cons (fun a w hk hn => ?_) ?_
    · have h1 : a.eval (.tmp 1) = .slice ac m cc := hn.1
      have h39 : a.eval (.tmp 39) = .bool true := hn.2.1
      clear hn
      refine wants_guard (d := 39) rfl rfl h39 ?_
      exact grown_move (.tmp 1) rfl h1
    refine steps_cons (fun a w hk hn => ?_) ?_
    · have h42 : a.eval (.tmp 42) = .slice ac m cc := hn.1
      have h39 : a.eval (.tmp 39) = .bool true := hn.2.1
      clear hn
      refine wants_guard (d := 39) rfl rfl h39 ?_
      refine grown_call (f := 13) rfl Tryd.func13 (by kernel_rfl) (by kernel_rfl) ?_
      simp only [List.map_toArray, List.map_cons, List.map_nil, h42]
      refine (lawhex_any _ cs w (SLC w hk) (unhide HBc) (by omega)).mono ?_
      rintro e w' ⟨rfl, K⟩
      exact ⟨_, rfl, K, congrArg Value.string (unhide HSH).symm⟩
    refine steps_cons (fun a w hk hn => ?_) ?_
    · have h41 : a.eval (.tmp 41) = .string SH := hn.1
      have h43 : a.eval (.tmp 43) = .string SH := hn.2.1
      have h39 : a.eval (.tmp 39) = .bool true := hn.2.2.1
      clear hn
      refine wants_guard (d := 39) rfl rfl h39 ?_
      refine grown_run (v := .bool true) ?_ (Kp.refl _ _) rfl
      obtain ⟨ρ, hρ, hc, hf, hg⟩ := eval_is a
      rw [hρ] at h41 h43 ⊢
      simp [go_sem, h41, h43]
    refine steps_cons (fun a w hk hn => ?_) ?_
    · have h39 : a.eval (.tmp 39) = .bool true := hn.1
      have h44 : a.eval (.tmp 44) = .bool true := hn.2.1
      clear hn
      refine wants_plain rfl ?_
      exact grown_pick _ _ _ true rfl h39 h44
    refine steps_cons (fun a w hk hn => ?_) ?_
    · have h45 : a.eval (.tmp 45) = .bool true := hn.1
      clear hn
      refine wants_plain rfl ?_
      exact grown_move (.tmp 45) rfl h45
    refine steps_cons (fun a w hk hn => ?_) ?_
    · have h0 : a.eval (.tmp 0) = .slice ab n cb := hn.1
      have h46 : a.eval (.tmp 46) = .bool true := hn.2.1
      clear hn
      refine wants_guard (d := 46) rfl rfl h46 ?_
      exact grown_move (.tmp 0) rfl h0
    refine steps_cons (fun a w hk hn => ?_) ?_
    · have h1 : a.eval (.tmp 1) = .slice ac m cc := hn.1
      have h46 : a.eval (.tmp 46) = .bool true := hn.2.1
      clear hn
      refine wants_guard (d := 46) rfl rfl h46 ?_
      exact grown_move (.tmp 1) rfl h1
    refine steps_cons (fun a w hk hn => ?_) ?_
    · have h47 : a.eval (.tmp 47) = .slice ab n cb := hn.1
      have h48 : a.eval (.tmp 48) = .slice ac m cc := hn.2.1
      have h46 : a.eval (.tmp 46) = .bool true := hn.2.2.1
      clear hn
      refine wants_guard (d := 46) rfl rfl h46 ?_
      refine grown_call (f := 17) rfl Tryd.func17 (by kernel_rfl) (by kernel_rfl) ?_
      simp only [List.map_toArray, List.map_cons, List.map_nil, h47, h48]
      refine (samehash_any _ _ bs cs SB SC (unhide HSB) (unhide HSC) w (SLB w hk) (SLC w hk)).mono ?_
      rintro e w' ⟨rfl, rfl⟩
      exact ⟨_, rfl, Kp.refl _ _, congrArg Value.bool (unhide HQ).symm⟩
    refine steps_cons (fun a w hk hn => ?_) ?_
    · have h0 : a.eval (.tmp 0) = .slice ab n cb := hn.1
      have h46 : a.eval (.tmp 46) = .bool true := hn.2.1
      clear hn
      refine wants_guard (d := 46) rfl rfl h46 ?_
      exact grown_move (.tmp 0) rfl h0
    refine steps_cons (fun a w hk hn => ?_) ?_
    · have h50 : a.eval (.tmp 50) = .slice ab n cb := hn.1
      have h46 : a.eval (.tmp 46) = .bool true := hn.2.1
      clear hn
      refine wants_guard (d := 46) rfl rfl h46 ?_
      exact grown_conv (.tmp 50) _ _ 5 bs rfl (by rw [h50]; exact SLB w hk) Tryd.underlying22 Tryd.underlying5 Tryd.underlying9 (congrArg Value.string (unhide HSB).symm)
    refine steps_cons (fun a w hk hn => ?_) ?_
    · have h1 : a.eval (.tmp 1) = .slice ac m cc := hn.1
      have h46 : a.eval (.tmp 46) = .bool true := hn.2.1
      clear hn
      refine wants_guard (d := 46) rfl rfl h46 ?_
      exact grown_move (.tmp 1) rfl h1
    refine steps_cons (fun a w hk hn => ?_) ?_
    · have h52 : a.eval (.tmp 52) = .slice ac m cc := hn.1
      have h46 : a.eval (.tmp 46) = .bool true := hn.2.1
      clear hn
      refine wants_guard (d := 46) rfl rfl h46 ?_
      exact grown_conv (.tmp 52) _ _ 5 cs rfl (by rw [h52]; exact SLC w hk) Tryd.underlying22 Tryd.underlying5 Tryd.underlying9 (congrArg Value.string (unhide HSC).symm)
    refine steps_cons (fun a w hk hn => ?_) ?_
    · have h51 : a.eval (.tmp 51) = .string SB := hn.1
      have h53 : a.eval (.tmp 53) = .string SC := hn.2.1
      have h46 : a.eval (.tmp 46) = .bool true := hn.2.2.1
      clear hn
      refine wants_guard (d := 46) rfl rfl h46 ?_
      refine grown_run (v := .bool q) ?_ (Kp.refl _ _) rfl
      obtain ⟨ρ, hρ, hc, hf, hg⟩ := eval_is a
      rw [hρ] at h51 h53 ⊢
      rw [unhide HQ]
      simp [go_sem, h51, h53]
    refine steps_cons (fun a w hk hn => ?_) ?_
    · have h49 : a.eval (.tmp 49) = .bool q := hn.1
      have h54 : a.eval (.tmp 54) = .bool q := hn.2.1
      have h46 : a.eval (.tmp 46) = .bool true := hn.2.2.1
      clear hn
      refine wants_guard (d := 46) rfl rfl h46 ?_
      refine grown_run (v := .bool true) ?_ (Kp.refl _ _) rfl
      obtain ⟨ρ, hρ, hc, hf, hg⟩ := eval_is a
      rw [hρ] at h49 h54 ⊢
      simp [go_sem, h49, h54]
    refine steps_cons (fun a w hk hn => ?_) ?_
    · have h46 : a.eval (.tmp 46) = .bool true := hn.1
      have h55 : a.eval (.tmp 55) = .bool true := hn.2.1
      clear hn
      refine wants_plain rfl ?_
      exact grown_pick _ _ _ true rfl h46 h55
    refine steps_cons (fun a w hk hn => ?_) ?_
    · have h56 : a.eval (.tmp 56) = .bool true := hn.1
      clear hn
      refine wants_plain rfl ?_
      exact grown_move (.tmp 56) rfl h56
    refine steps_cons (fun a w hk hn => ?_) ?_
    · have h0 : a.eval (.tmp 0) = .slice ab n cb := hn.1
      have h57 : a.eval (.tmp 57) = .bool true := hn.2.1
      clear hn
      refine wants_guard (d := 57) rfl rfl h57 ?_
      exact grown_move (.tmp 0) rfl h0
    refine steps_cons (fun a w hk hn => ?_) ?_
    · have h0 : a.eval (.tmp 0) = .slice ab n cb := hn.1
      have h57 : a.eval (.tmp 57) = .bool true := hn.2.1
      clear hn
      refine wants_guard (d := 57) rfl rfl h57 ?_
      exact grown_move (.tmp 0) rfl h0
    refine steps_cons (fun a w hk hn => ?_) ?_
    · have h58 : a.eval (.tmp 58) = .slice ab n cb := hn.1
      have h59 : a.eval (.tmp 59) = .slice ab n cb := hn.2.1
      have h57 : a.eval (.tmp 57) = .bool true := hn.2.2.1
      clear hn
      refine wants_guard (d := 57) rfl rfl h57 ?_
      refine grown_call (f := 17) rfl Tryd.func17 (by kernel_rfl) (by kernel_rfl) ?_
      simp only [List.map_toArray, List.map_cons, List.map_nil, h58, h59]
      refine (samehash_any _ _ bs bs SB SB (unhide HSB) (unhide HSB) w (SLB w hk) (SLB w hk)).mono ?_
      rintro e w' ⟨rfl, rfl⟩
      exact ⟨_, rfl, Kp.refl _ _, congrArg Value.bool (by simp)⟩
    refine steps_cons (fun a w hk hn => ?_) ?_
    · have h57 : a.eval (.tmp 57) = .bool true := hn.1
      have h60 : a.eval (.tmp 60) = .bool true := hn.2.1
      clear hn
      refine wants_plain rfl ?_
      exact grown_pick _ _ _ true rfl h57 h60
    refine steps_cons (fun a w hk hn => ?_) ?_
    · have h61 : a.eval (.tmp 61) = .bool true := hn.1
      clear hn
      refine wants_plain rfl ?_
      exact grown_move (.tmp 61) rfl h61
    refine steps_cons (fun a w hk hn => ?_) ?_
    · have h7 : a.eval (.tmp 7) = .slice (some ⟨g, 0, none⟩) nf nf := hn.1
      have h62 : a.eval (.tmp 62) = .bool true := hn.2.1
      clear hn
      refine wants_guard (d := 62) rfl rfl h62 ?_
      exact grown_move (.tmp 7) rfl h7
    refine steps_cons (fun a w hk hn => ?_) ?_
    · have h0 : a.eval (.tmp 0) = .slice ab n cb := hn.1
      have h62 : a.eval (.tmp 62) = .bool true := hn.2.1
      clear hn
      refine wants_guard (d := 62) rfl rfl h62 ?_
      exact grown_move (.tmp 0) rfl h0
    refine steps_cons (fun a w hk hn => ?_) ?_
    · have h63 : a.eval (.tmp 63) = .slice (some ⟨g, 0, none⟩) nf nf := hn.1
      have h64 : a.eval (.tmp 64) = .slice ab n cb := hn.2.1
      have h62 : a.eval (.tmp 62) = .bool true := hn.2.2.1
      clear hn
      refine wants_guard (d := 62) rfl rfl h62 ?_
      refine grown_call (f := 18) rfl Tryd.func18 (by kernel_rfl) (by kernel_rfl) ?_
      simp only [List.map_toArray, List.map_cons, List.map_nil, h63, h64]
      refine (intact_any _ _ bs 165 w (SLF w hk) (SLB w hk) (by omega)).mono ?_
      rintro e w' ⟨rfl, K⟩
      exact ⟨_, rfl, K, rfl⟩
    refine steps_cons (fun a w hk hn => ?_) ?_
    · have h62 : a.eval (.tmp 62) = .bool true := hn.1
      have h65 : a.eval (.tmp 65) = .bool true := hn.2.1
      clear hn
      refine wants_plain rfl ?_
      exact grown_pick _ _ _ true rfl h62 h65
    refine steps_cons (fun a w hk hn => ?_) ?_
    · have h66 : a.eval (.tmp 66) = .bool true := hn.1
      clear hn
      refine wants_plain rfl ?_
      exact grown_move (.tmp 66) rfl h66
    refine steps_cons (fun a w hk hn => ?_) ?_
    · have h67 : a.eval (.tmp 67) = .bool true := hn.1
      clear hn
      refine wants_guard (d := 67) rfl rfl h67 ?_
      refine grown_call (f := 14) rfl Tryd.func14 (by kernel_rfl) (by kernel_rfl) ?_
      simp only [List.map_toArray, List.map_nil]
      refine (known_any w (GL w hk)).mono ?_
      rintro e w' ⟨rfl, K⟩
      exact ⟨_, rfl, K, rfl⟩
    refine steps_cons (fun a w hk hn => ?_) ?_
    · have h67 : a.eval (.tmp 67) = .bool true := hn.1
      have h68 : a.eval (.tmp 68) = .bool true := hn.2.1
      clear hn
      refine wants_plain rfl ?_
      exact grown_pick _ _ _ true rfl h67 h68
    refine steps_cons (fun a w hk hn => ?_) ?_
    · have h69 : a.eval (.tmp 69) = .bool true := hn.1
      clear hn
      refine wants_plain rfl ?_
      exact grown_assign (.tmp 69) rfl h69
    exact trivial
  intro W1 hkW1
  rintro _ rfl
  rintro _ rfl
  rintro _ rfl
  rintro _ rfl
  intro v18 h18
  rintro _ rfl
  rintro _ rfl
  intro v21 h21
  rintro _ rfl
  rintro _ rfl
  rintro _ rfl
  rintro _ rfl
  rintro _ rfl
  rintro _ rfl
  intro v28 h28
  intro v29 h29
  rintro _ rfl
  rintro _ rfl
  rintro _ rfl
  rintro _ rfl
  intro v34 h34
  intro v35 h35
  rintro _ rfl
  rintro _ rfl
  rintro _ rfl
  rintro _ rfl
  rintro _ rfl
  rintro _ rfl
  rintro _ rfl
  rintro _ rfl
  rintro _ rfl
  rintro _ rfl
  rintro _ rfl
  rintro _ rfl
  rintro _ rfl
  rintro _ rfl
  rintro _ rfl
  rintro _ rfl
  rintro _ rfl
  rintro _ rfl
  rintro _ rfl
  rintro _ rfl
  rintro _ rfl
  rintro _ rfl
  rintro _ rfl
  rintro _ rfl
  rintro _ rfl
  rintro _ rfl
  rintro _ rfl
  rintro _ rfl
  rintro _ rfl
  rintro _ rfl
  rintro _ rfl
  rintro _ rfl
  rintro _ rfl
  rintro _ rfl
  rintro _ rfl
  refine fin_nil ?_
  simp only [Act.put, List.set_cons_zero, List.set_cons_succ, List.setIfInBounds_toArray]
  go_wp2_with fail
  go_ret
  exact ⟨rfl, ((unhide HK2).trans ((kp_drew w2).trans hkW1)).below (Nat.le_refl _) (by simp)⟩

set_option maxRecDepth 100000 in
theorem lifted (os : Os) (started : os.Started) (H : Type) (enc : TypeId × Value → H) :
    ReturnsInHanded {} Tryd.checked os 4 .any (fun w args => (Rows.hashTellsSpec.pre enc Tryd.prog Tryd.f4 [] false w args ∧ laidMetH Tryd.prog laid1 w) ∧ sizedMet enc Tryd.prog Tryd.f4 (OpenSpec.ofChange Rows.hashTellsSpec) false w args) (Rows.hashTellsSpec.post enc Tryd.prog Tryd.f4 false true false false) := by
  refine returnsInHanded_of_change_and (C := Tryd.checked) (X := fun w _ => laidMetH Tryd.prog laid1 w) (fun _ _ _ hh h => h.of_heap hh) own started (by kernel_rfl) Tryd.func4
    (ChangeSpec.witness_shaped (enc := enc) (C := Tryd.checked) (os := os) (X := fun w _ => laidMetH Tryd.prog laid1 w) false (World.doorLaid Tryd.prog 400 os) #[.slice none 0 0, .slice none 0 0, .int .u8 0] 8 rfl (World.shaped_of_RefB (by kernel_rfl) (by kernel_rfl)) (by kernel_rfl) (by kernel_rfl) (by kernel_rfl) (door_met os _)) ?_
  intro W base args ds gs before hval0 hW hcnd hsz0 hL _
  have hG := gl_of_laid hL
  have hval : ∀ (j : Nat) t v, Tryd.f4.params[j]? = some t → args[j]? = some v → Value.okWide Tryd.prog W .any base t v := hval0
  have hW' := hW
  obtain ⟨p, q, hA0, hV, rfl, hfz, hnd⟩ := hW
  have hA : DataW.TrodAll enc Tryd.prog W 0 (fun _ => true) true Tryd.f4.params.toList args.toList ds p := hA0
  rw [Tryd.params4] at hA hval
  obtain ⟨v0, vs0, d0, ds0, p0, q0, hargs, rfl, rfl, h0, r0⟩ := trodAll_cons hA
  obtain ⟨v1, vs1, d1, ds1, p1, q1, rfl, rfl, rfl, h1, r1⟩ := trodAll_cons r0
  obtain ⟨v2, vs2, d2, ds2, p2, q2, rfl, rfl, rfl, h2, r2⟩ := trodAll_cons r1
  obtain ⟨rfl, rfl, rfl⟩ := trodAll_nil r2
  obtain rfl : args = #[v0, v1, v2] := by cases args; simp_all
  obtain ⟨rfl, rfl⟩ := trodVars_none hV
  obtain ⟨a0, len0, cap0, rfl⟩ := okWide_slice Tryd.underlying22 (hval 0 22 v0 rfl rfl)
  have k0 := h0
  have lt0 : ∀ x ∈ p0, x.block < W.heap.size := by obtain ⟨m, hm⟩ := k0; exact DataW.trod_lt m _ _ _ hm
  obtain ⟨l0, s0, b0⟩ : ∃ bs, Sl W (.slice a0 len0 cap0) bs ∧ Bs bs := by
    obtain ⟨fuel, hf⟩ := h0
    exact bytes_of_trod (by simpa [Value.cells] using hf)
  obtain ⟨a1, len1, cap1, rfl⟩ := okWide_slice Tryd.underlying22 (hval 1 22 v1 rfl rfl)
  have k1 := h1
  have lt1 : ∀ x ∈ p1, x.block < W.heap.size := by obtain ⟨m, hm⟩ := k1; exact DataW.trod_lt m _ _ _ hm
  obtain ⟨l1, s1, b1⟩ : ∃ bs, Sl W (.slice a1 len1 cap1) bs ∧ Bs bs := by
    obtain ⟨fuel, hf⟩ := h1
    exact bytes_of_trod (by simpa [Value.cells] using hf)
  obtain ⟨a2, rfl, rfl, rfl, w2⟩ := open_int Tryd.underlying5 (hval 2 5 v2 rfl rfl) h2
  clear hA0 hval0
  refine (walk (.slice a0 len0 cap0) l0 (.slice a1 len1 cap1) l1 a2 W hG s0 b0 s1 b1 (bounds_u8 w2)).mono fun e W' ⟨he, bel⟩ => ?_
  subst he
  exact ⟨_, rfl, _, _, _, [], _, [], hW', trodAll_mk1 (shut_bool Tryd.underlying4 _), (trodAll_cons_mk (Below.trod laidOut (by kernel_rfl) (of_decide_eq_true (by kernel_rfl)) k0 bel lt0) (trodAll_cons_mk (Below.trod laidOut (by kernel_rfl) (of_decide_eq_true (by kernel_rfl)) k1 bel lt1) (trodAll_cons_mk (shut_int Tryd.underlying5 w2) trodAll_mk0))), rfl, bel.frame _, fun h => by cases h⟩

theorem over : Rows.hashTellsRow.holds Tryd.pinned (OpenSpec.ofChange Rows.hashTellsSpec) :=
  OpenClaim.holds_of_wide 4 Tryd.f4 rfl rfl rfl rfl rfl rfl rfl ⟨rfl, rfl, rfl, rfl, rfl⟩ rfl rfl rfl rfl rfl (by kernel_rfl) Tryd.func4 (by kernel_rfl)
    (of_decide_eq_true (by kernel_rfl)) (by unfold Func.isWrapper; first | (rw [if_pos (by decide +kernel)]; kernel_rfl) | (rw [if_neg (by decide +kernel)]; exact ⟨rfl, rfl⟩))
    (fun os started H enc _ => lifted os started H enc)
end Go.Proofs.YthmbeamphahlmaaDoor.hashTells

namespace Go.Proofs.YthmbeamphahlmaaDoor
/-- The given statement: the tied card. -/
theorem HashTells_holds : Rows.HashTellsCardSaid :=
  Claim7.holds_tied_plain_at .later [] [.data] true Rows.hashTellsCard.stood.harness false
    hashTells.over (fun _ h => by cases h) (by kernel_rfl) (fun _ h => by cases h) hashTells_row_tie rfl ⟨rfl, rfl⟩ (by kernel_rfl) rfl
    (fun f fn hf hfn => by
      obtain rfl : f = 4 := Option.some.inj ((show Tryd.prog.funcNamed "broadsheet/broadsheetlaw2.HashTells" = some 4 by kernel_rfl).symm.trans hf) |>.symm
      obtain rfl : fn = Tryd.f4 := (Option.some.inj (Tryd.func4.symm.trans hfn)).symm
      exact ⟨by kernel_rfl, fun j t ht => by
        rw [Tryd.params4] at ht
        have hm : t ∈ ([22, 22, 5] : List TypeId) := by simpa using Array.mem_of_getElem? ht
        have hall : (([22, 22, 5] : List TypeId).all fun u => !Tryd.prog.wantsStandIn u) = true := by kernel_rfl
        exact (show Tryd.prog.wantsStandIn t = false by simpa using List.all_eq_true.1 hall t hm)⟩)
    (by kernel_rfl)
#print axioms HashTells_holds
end Go.Proofs.YthmbeamphahlmaaDoor
