/-
  The contracts of the law package's helpers Seed and Hash, as functions.
-/
import Derived.Test.YtbkipibmaghejaaGreatDoorKLSmalls
import Derived.Test.YtbkipibmaghejaaGreatDoorKOKeeps
import Derived.Test.YtbkipibmaghejaaGreatDoorKHSmalls
import Derived.Test.YtbkipibmaghejaaGreatDoorKHRefs
import Derived.Test.YtbkipibmaghejaaGreatDoorKXRefB
import Derived.Test.YtbkipibmaghejaaGreatDoorKXSig
import Derived.Test.YtbkipibmaghejaaGreatDoorKSOwner
import Derived.Test.YtbkipibmaghejaaGreatDoorKXSpec
import Derived.Test.YtbkipibmaghejaaGreatDoorKLMan
import Derived.Test.YtbkipibmaghejaaGreatDoorKLMore
import Derived.Test.YtbkipibmaghejaaGreatDoorKXSmalls
import Derived.Test.YtbkipibmaghejaaGreatDoorKSRefV
import Derived.Test.YtbkipibmaghejaaGreatDoorKXProg
namespace Go.Proofs.YtbkipibmaghejaaGreatDoor
open Go.RowKit
open Go.Proofs

def hashX (n : Int) : List Int := sha [98, wiP n 0 100000 % 256]
def seedX (n : Int) : List Int := sha [99, wiP n 0 1000 % 5]
theorem hashX_len (n : Int) : (hashX n).length = 32 := sha_len _
theorem hashX_bs (n : Int) : Bs (hashX n) := sha_bs _
theorem seedX_len (n : Int) : (seedX n).length = 32 := sha_len _
theorem seedX_bs (n : Int) : Bs (seedX n) := sha_bs _
theorem wrap_u8 (f : Int) : IntKind.u8.wrap f = f % 256 := by simp [IntKind.wrap, IntKind.signed, IntKind.bits]

set_option maxRecDepth 100000 in
set_option maxHeartbeats 1000000 in
theorem xhash_any (n : Int) (w : World) :
    Calls Tryz.prog 17 #[.int .i64 n] w fun e w' => ∃ ao m c, e = .returned (.slice ao m c) ∧ Row w' w.heap.size (.slice ao m c) (hashX n) ∧ Kp [] w w' := by
  have HW := hide (within_wi n 0 100000 w (by omega) (by omega) (by omega))
  obtain ⟨x, hx⟩ : ∃ x, x = wiP n 0 100000 := ⟨_, rfl⟩
  have hu := wrap_u8 x
  rw [← hx] at HW
  have HX := hide hx
  clear hx
  go_enter Tryz.func17, Tryz.ntmps17
  go_wp2_with fail
  refine (unhide HW).mono ?_
  rintro ee w1 ⟨rfl, hw⟩
  subst w1
  clear HW
  go_wp2_with fail
  obtain ⟨ob, hob⟩ : ∃ o : Obj, o = (.cells #[.int .u8 (x % 256)] 5) := ⟨_, rfl⟩
  have hP : Sl (w.alloc ob) (.slice (some ⟨w.heap.size, 0, none⟩) 1 1) [x % 256] := by
    rw [hob]; exact Sl.block (cs := [x % 256]) (t := 5) (fr := (0, 0)) (heap_alloc_new w _) (by simp [maxLen])
  have hPB : Bs [x % 256] := by
    intro b hb
    obtain rfl : b = x % 256 := by simpa using hb
    omega
  have Ka := (Kp.refl [] w).alloc ob
  have HL := lists1 hP hPB
  rw [show (w.alloc ob).heap.size = w.heap.size + 1 by simp] at HL
  have HK := hide (Ka.alloc (.cells #[.slice (some ⟨w.heap.size, 0, none⟩) 1 1] 23))
  rw [← hob]
  refine (reftagged_any 98 _ _ _ rfl _ HL (by omega) (by omega) (by simp) (by simp)).mono ?_
  rintro ee w2 ⟨ao2, m2, c2, rfl, R2, K2⟩
  have hr : sha (98 :: cat [(Value.slice (some ⟨w.heap.size, 0, none⟩) 1 1, [x % 256])]) = hashX n := by unfold hashX; rw [← unhide HX]; rfl
  rw [hr] at R2
  have HR2 := hide (row_new R2 (unhide HK))
  have HK2 := hide ((unhide HK).trans K2)
  clear HL HK hob R2 K2 Ka hP hPB hr hu
  go_wp2_with fail
  go_ret
  exact ⟨ao2, m2, c2, rfl, unhide HR2, unhide HK2⟩

set_option maxRecDepth 100000 in
set_option maxHeartbeats 1000000 in
theorem xseed_any (n : Int) (w : World) :
    Calls Tryz.prog 11 #[.int .i64 n] w fun e w' => ∃ ao m c, e = .returned (.slice ao m c) ∧ Row w' w.heap.size (.slice ao m c) (seedX n) ∧ Kp [] w w' := by
  have HW := hide (within_wi n 0 1000 w (by omega) (by omega) (by omega))
  obtain ⟨x, hx⟩ : ∃ x, x = wiP n 0 1000 := ⟨_, rfl⟩
  obtain ⟨hxb, hxc⟩ := wiP_ge n 0 1000 (by omega)
  rw [← hx] at HW hxb hxc
  have HX := hide hx
  clear hx
  go_enter Tryz.func11, Tryz.ntmps11
  go_wp2_with fail
  refine (unhide HW).mono ?_
  rintro ee w1 ⟨rfl, hw⟩
  subst w1
  clear HW
  go_wp2_with fail
  obtain ⟨ob, hob⟩ : ∃ o : Obj, o = (.cells #[.int .u8 (x % 5)] 5) := ⟨_, rfl⟩
  have hP : Sl (w.alloc ob) (.slice (some ⟨w.heap.size, 0, none⟩) 1 1) [x % 5] := by
    rw [hob]; exact Sl.block (cs := [x % 5]) (t := 5) (fr := (0, 0)) (heap_alloc_new w _) (by simp [maxLen])
  have hPB : Bs [x % 5] := by
    intro b hb
    obtain rfl : b = x % 5 := by simpa using hb
    omega
  have Ka := (Kp.refl [] w).alloc ob
  have HL := lists1 hP hPB
  rw [show (w.alloc ob).heap.size = w.heap.size + 1 by simp] at HL
  have HK := hide (Ka.alloc (.cells #[.slice (some ⟨w.heap.size, 0, none⟩) 1 1] 23))
  rw [← hob]
  refine (reftagged_any 99 _ _ _ rfl _ HL (by omega) (by omega) (by simp) (by simp)).mono ?_
  rintro ee w2 ⟨ao2, m2, c2, rfl, R2, K2⟩
  have hr : sha (99 :: cat [(Value.slice (some ⟨w.heap.size, 0, none⟩) 1 1, [x % 5])]) = seedX n := by unfold seedX; rw [← unhide HX]; rfl
  rw [hr] at R2
  have HR2 := hide (row_new R2 (unhide HK))
  have HK2 := hide ((unhide HK).trans K2)
  clear HL HK hob R2 K2 Ka hP hPB hr
  go_wp2_with fail
  go_ret
  exact ⟨ao2, m2, c2, rfl, unhide HR2, unhide HK2⟩
end Go.Proofs.YtbkipibmaghejaaGreatDoor

/-
  The contract of the law package's signed: a checkpoint that is signed, as it is drawn.
-/
namespace Go.Proofs.YtbkipibmaghejaaGreatDoor
open Go.RowKit
open Go.Proofs

def SigT (b : Nat) (i : Int) (ps qs : List (List Int)) : Tell := fun v w => SigA b w v i ps qs
theorem stable_sigt (b : Nat) (i : Int) (ps qs : List (List Int)) : Tell.stable (SigT b i ps qs) := fun _ _ _ k h => h.kept (S := []) (by simp) k
def SgB (b : Nat) (n : Int) (x : Value) (i : Int) (ps qs : List (List Int)) : Tell := fun v w => ∃ ap np cp aq nq cq, v = .agg #[.int .i64 n, x, .int .i64 i, .slice ap np cp, .slice aq nq cq] ∧ SigA b w (.agg #[.int .i64 i, .slice ap np cp, .slice aq nq cq]) i ps qs
theorem stable_sgb (b : Nat) (n : Int) (x : Value) (i : Int) (ps qs : List (List Int)) : Tell.stable (SgB b n x i ps qs) := fun _ _ _ k ⟨ap, np, cp, aq, nq, cq, e, h⟩ => ⟨ap, np, cp, aq, nq, cq, e, h.kept (S := []) (by simp) k⟩
theorem grown_bsgb {o : Oper} {a : Act} {w : World} {b : Nat} {n i : Int} {ar : Option Addr} {mr cr : Nat} {ps qs : List (List Int)} (x0 x1 : Operand) (ho : o.op = .build 30 #[(0, x0), (1, x1)]) (h0 : a.eval x0 = .agg #[.int .i64 n, .slice ar mr cr]) (h1 : SigT b i ps qs (a.eval x1) w) :
    grown Tryz.prog w (SgB b n (.slice ar mr cr) i ps qs) ((execOp a.eval o).run Tryz.prog w) := by
  obtain ⟨ap, np, cp, aq, nq, cq, lp, lq, e, -⟩ := (SigA.v h1).shape
  refine grown_run (v := .agg #[.int .i64 n, .slice ar mr cr, .int .i64 i, .slice ap np cp, .slice aq nq cq]) ?_ (Kp.refl _ _) ⟨ap, np, cp, aq, nq, cq, rfl, by rw [← e]; exact h1⟩
  obtain ⟨ρ, hρ, _⟩ := eval_is a
  rw [hρ] at e h0 ⊢
  unfold execOp
  simp only [ho]
  simp [go_sem, e, h0]

theorem noBy_sgd {w : World} {g : Nat} {n i : Int} {a1 a2 a3 : Option Addr} {n1 c1 n2 c2 n3 c3 : Nat} {t : TypeId} {fr : Nat × Nat} (hg : w.heap[g]? = some (.cells #[.int .i64 n, .slice a1 n1 c1, .int .i64 i, .slice a2 n2 c2, .slice a3 n3 c3] t fr)) : NoBy w [g] := by
  intro x hx
  obtain rfl : x = g := by simpa using hx
  refine ⟨_, _, _, hg, fun x hx y => ?_⟩
  rcases (by simpa using hx : x = .int .i64 n ∨ x = .slice a1 n1 c1 ∨ x = .int .i64 i ∨ x = .slice a2 n2 c2 ∨ x = .slice a3 n3 c3) with rfl | rfl | rfl | rfl | rfl <;> simp
/-- which one signed tells. -/
def sgdX (n index size root : Int) : Sg := sgnC (seedX n) (wiP index 0 15).toNat (wiP size 0 256) (hashX root)
theorem sgdX_c (n index size root : Int) : rgtC (sgdX n index size root).n (sgdX n index size root).r = true := by
  have h := wiP_ge size 0 256 (by omega)
  exact (rgtC_iff _ _).2 ⟨h, hashX_len _⟩
theorem sgdX_i (index : Int) : (wiP index 0 15).toNat < 16 := by have h := wiP_ge index 0 15 (by omega); omega
theorem sgdX_rgt (n index size root : Int) : (sgdX n index size root).rgt = true := sgnC_rgt _ _ (sgdX_i index) _ _ (sgdX_c n index size root)
theorem sgdX_ver (n index size root : Int) : (sgdX n index size root).ver (topP (seedX n)) = true := sgnC_ver _ _ (sgdX_i index) _ _ (sgdX_c n index size root)

set_option maxRecDepth 100000 in
set_option maxHeartbeats 4000000 in
theorem lsigned_any (xn xi xs xr : Int) (w : World) :
    Calls Tryz.prog 6 #[.int .i64 xn, .int .i64 xi, .int .i64 xs, .int .i64 xr] w fun e w' => ∃ vs ao m c, e = .returned (.tuple #[vs, .slice ao m c]) ∧ SgA w.heap.size w' vs (sgdX xn xi xs xr) ∧ Sl w' (.slice ao m c) (topP (seedX xn)) ∧ Kp [] w w' := by
  obtain ⟨g8, hg8⟩ : ∃ g, g = w.heap.size := ⟨_, rfl⟩
  obtain ⟨w1, hw1⟩ : ∃ w1, w1 = w.alloc (.cells #[.int .i64 0, .slice none 0 0, .int .i64 0, .slice none 0 0, .slice none 0 0] 30) := ⟨_, rfl⟩
  have K1 : Kp [] w w1 := by rw [hw1]; exact (Kp.refl [] w).alloc _
  have G1 : w1.heap[g8]? = some (.cells #[.int .i64 0, .slice none 0 0, .int .i64 0, .slice none 0 0, .slice none 0 0] 30 (0, 0)) := by rw [hw1, hg8]; exact heap_alloc_new w _
  have HC := hide (xseed_any xn w1)
  obtain ⟨sd, hsd⟩ : ∃ x, x = seedX xn := ⟨_, rfl⟩
  obtain ⟨n, hn⟩ : ∃ x, x = wiP xs 0 256 := ⟨_, rfl⟩
  obtain ⟨r, hr⟩ : ∃ x, x = hashX xr := ⟨_, rfl⟩
  obtain ⟨i, hi⟩ : ∃ x, x = (wiP xi 0 15).toNat := ⟨_, rfl⟩
  have hsg : sgdX xn xi xs xr = sgnC sd i n r := by rw [hsd, hn, hr, hi]; rfl
  rw [hsg, ← hsd]
  rw [← hsd] at HC
  have HSB : Hid (Bs sd) := hide (by rw [hsd]; exact seedX_bs xn)
  have HSL : Hid (sd.length = 32) := hide (by rw [hsd]; exact seedX_len xn)
  have HI : Hid (i < 16) := hide (by rw [hi]; exact sgdX_i xi)
  have HIE : Hid (wiP xi 0 15 = (i : Int)) := hide (by rw [hi]; have h := wiP_ge xi 0 15 (by omega); omega)
  have HRB : Hid (Bs r) := hide (by rw [hr]; exact hashX_bs xr)
  have HN := hide hn
  have HR := hide hr
  have HK1 := hide K1
  have HG1 := hide G1
  have HW1 := hide hw1
  have H8 := hide hg8
  clear hsd hn hr hi hsg K1 G1 hw1 hg8
  go_enter Tryz.func6, Tryz.ntmps6
  go_wp2_with fail
  rw [← unhide HW1, ← unhide H8]
  refine (unhide HC).mono ?_
  rintro ee w2 ⟨a2, m2, c2, rfl, R2, K2⟩
  have HN2 := hide (new_ownA (.slice a2 m2 c2) sd w2 R2.sl (unhide HSB) (unhide HSL))
  have HK2 := hide ((unhide HK1).trans K2)
  have HG2 := hide (K2.heap (unhide HG1) (by simp))
  clear HC R2 K2 HW1
  go_wp2_with fail
  refine (unhide HN2).mono ?_
  rintro ee w3 ⟨go, base, rfl, O3, K3, hgo⟩
  have HO3 := hide O3
  have HGO := hide hgo
  have HK3 := hide ((unhide HK2).trans K3)
  have HG3 := hide (K3.heap (unhide HG2) (by simp))
  have hz2 : g8 < w2.heap.size := lt_of_block (unhide HG2)
  have hC := within_wi xs 0 256 w3 (by omega) (by omega) (by omega)
  rw [← unhide HN] at hC
  have HW := hide hC
  have hC := xhash_any xr w3
  rw [← unhide HR] at hC
  have HH := hide hC
  clear HN2 O3 K3 hC hgo
  go_wp2_with fail
  refine (unhide HW).mono ?_
  rintro ee w4 ⟨rfl, hw⟩
  subst w4
  clear HW
  go_wp2_with fail
  refine (unhide HH).mono ?_
  rintro ee w4 ⟨ar, mr, cr, rfl, R4, K4⟩
  have HR4 := hide R4
  have HK4 := hide ((unhide HK3).trans K4)
  have HO4 := hide ((unhide HO3).kept K4)
  have HG4 := hide (K4.heap (unhide HG3) (by simp))
  have Ga := heap_alloc_new w4 (.cells #[.int .i64 0, .slice none 0 0] 25)
  have HKa : Hid (Kp [] w4 (w4.alloc (.cells #[.int .i64 0, .slice none 0 0] 25))) := (Kp.refl [] w4).alloc _
  have hz3 : g8 < w3.heap.size := lt_of_block (unhide HG3)
  clear HH R4 K4 HO3 HG3
  go_wp2_with (refine wpList_store_flat rfl 25 (.tmp 11) (.tmp 19) rfl w4.heap.size 0 rfl _ _ [.int .i64 n, .slice ar mr cr] Ga rfl (by simp) Tryz.chkSize (by simp [Value.oneCell']) #[.int .i64 n, .slice ar mr cr] rfl ?_; intro w5 G5 K5; refine Hid.out ?_)
  obtain ⟨g11, hg11⟩ : ∃ g, g = w4.heap.size := ⟨_, rfl⟩
  have K45 : Kp [] w4 w5 := (unhide HKa).then K5 (fun i hi => .inr (by simp at hi; omega))
  rw [← hg11] at G5 ⊢
  have HD : Hid (∀ w', Kp [] w5.drew w' → Kp [] w5 w') := fun w' k' => (kp_drew w5).trans k'
  have hS5 := (unhide HR4).sl.kept K45 (by simp)
  have hO5 := (unhide HO4).kept K45
  have HS11 : Hid (∀ w', Kp [] w5.drew w' → w'.heap[g11]? = some (.cells #[.int .i64 n, .slice ar mr cr] 25 (0, 0))) := fun w' k' => (unhide HD w' k').heap G5 (by simp)
  have HCK : Hid (∀ w', Kp [] w5.drew w' → CkV w' (.agg #[.int .i64 n, .slice ar mr cr]) n r) := fun w' k' => ⟨ar, mr, cr, rfl, hS5.kept (unhide HD w' k') (by simp), unhide HRB⟩
  have HOW : Hid (∀ w', Kp [] w5.drew w' → Ow w' base go sd 5) := fun w' k' => hO5.kept (unhide HD w' k')
  have HS5 := hide hS5
  have HRO := hide (unhide HR4).own
  have HG5 := hide (K45.heap (unhide HG4) (by simp))
  have HK5 := hide ((unhide HK4).trans K45)
  obtain ⟨B, hB⟩ : ∃ B, B = bodC n r := ⟨_, rfl⟩
  have HBB := hide hB
  have HBS : Hid (Bs B) := hide (by rw [hB]; exact bodC_bs n r (unhide HRB))
  have HBL : Hid (B.length ≤ 1000) := hide (by rw [hB]; have := bodC_le n r; omega)
  clear Ga HKa G5 K5 K45 hg11 hS5 hO5 HR4 HO4 HG4 hB
  refine hide ?_
  go_wp2_with fail
  refine region_grow_tail 10 Tryz.mixed [Is (.agg #[.int .i64 n, .slice ar mr cr]), Is (.pointer (some ⟨go, 0, none⟩)), Is (.int .i64 xi), Is (.int .i64 (i : Int)), Is (.agg #[.int .i64 n, .slice ar mr cr]), SlT (B), SigT go i (sgnP sd i (digP B)) (pthP sd i 4), SgB go n (.slice ar mr cr) i (sgnP sd i (digP B)) (pthP sd i 4), Is (.pointer (some ⟨go, 0, none⟩)), SlT (topP sd)] [[(11, none)], [(10, none)], [(1, none)], [(22, some 2)], [(11, none)], [(24, some 4)], [(21, some 1), (23, some 3), (25, some 5)], [(20, some 0), (26, some 6)], [(10, none)], [(28, some 8)]] (by kernel_rfl) ?_ ?_ ?_
  all_goals try simp only [List.take_succ_cons, List.take_zero, List.drop_succ_cons, List.drop_zero]
  · simp only [List.mem_cons, List.not_mem_nil, or_false]
    intro R hR
    rcases hR with rfl | rfl | rfl | rfl | rfl | rfl | rfl | rfl | rfl | rfl <;> first | exact stable_is _ | exact stable_sl _ | exact stable_sigt _ _ _ _ | exact stable_sgb _ _ _ _ _ _
  · refine steps_cons (fun a w hk hn => ?_) ?_
    · have h11 : a.eval (.tmp 11) = .pointer (some ⟨g11, 0, none⟩) := hn.1
      clear hn
      refine wants_plain rfl ?_
      exact grown_loadf 25 (.tmp 11) rfl g11 0 h11 _ _ _ _ (unhide HS11 w hk) [.int .i64 n, .slice ar mr cr] (flat_in rfl) Tryz.underlying25 rfl Tryz.chkSize rfl
    refine steps_cons (fun a w hk hn => ?_) ?_
    · have h10 : a.eval (.tmp 10) = .pointer (some ⟨go, 0, none⟩) := hn.1
      clear hn
      refine wants_plain rfl ?_
      exact grown_move (.tmp 10) rfl h10
    refine steps_cons (fun a w hk hn => ?_) ?_
    · have h1 : a.eval (.tmp 1) = .int .i64 xi := hn.1
      clear hn
      refine wants_plain rfl ?_
      exact grown_move (.tmp 1) rfl h1
    refine steps_cons (fun a w hk hn => ?_) ?_
    · have h22 : a.eval (.tmp 22) = .int .i64 xi := hn.1
      clear hn
      refine wants_plain rfl ?_
      refine grown_call (f := 14) rfl Tryz.func14 (by kernel_rfl) (by kernel_rfl) ?_
      simp only [List.map_toArray, List.map_cons, List.map_nil, h22]
      refine (within_wi xi 0 15 w (by omega) (by omega) (by omega)).mono ?_
      rintro e w' ⟨rfl, rfl⟩
      exact ⟨_, rfl, Kp.refl _ _, congrArg (Value.int .i64) (unhide HIE)⟩
    refine steps_cons (fun a w hk hn => ?_) ?_
    · have h11 : a.eval (.tmp 11) = .pointer (some ⟨g11, 0, none⟩) := hn.1
      clear hn
      refine wants_plain rfl ?_
      exact grown_loadf 25 (.tmp 11) rfl g11 0 h11 _ _ _ _ (unhide HS11 w hk) [.int .i64 n, .slice ar mr cr] (flat_in rfl) Tryz.underlying25 rfl Tryz.chkSize rfl
    refine steps_cons (fun a w hk hn => ?_) ?_
    · have h24 : a.eval (.tmp 24) = .agg #[.int .i64 n, .slice ar mr cr] := hn.1
      clear hn
      refine wants_plain rfl ?_
      refine grown_call (f := 25) rfl Tryz.func25 (by kernel_rfl) (by kernel_rfl) ?_
      simp only [List.map_toArray, List.map_cons, List.map_nil, h24]
      refine (rckbody_any _ n r B (unhide HBB) w (unhide HCK w hk)).mono ?_
      rintro e w' ⟨ao, m, c, rfl, R, K⟩
      exact ⟨_, rfl, K, R⟩
    refine steps_cons (fun a w hk hn => ?_) ?_
    · have h21 : a.eval (.tmp 21) = .pointer (some ⟨go, 0, none⟩) := hn.1
      have h23 : a.eval (.tmp 23) = .int .i64 (i : Int) := hn.2.1
      have h25 : Sl w (a.eval (.tmp 25)) (B) := hn.2.2.1
      clear hn
      refine wants_plain rfl ?_
      refine grown_call (f := 24) rfl Tryz.func24 (by kernel_rfl) (by kernel_rfl) ?_
      simp only [List.map_toArray, List.map_cons, List.map_nil, h21, h23]
      refine (own_signA go base sd i _ B (digP B) rfl w (unhide HOW w hk) (unhide HSB) (unhide HSL) (unhide HI) h25 (unhide HBS) (unhide HBL)).mono ?_
      rintro e w' ⟨v, rfl, V, K⟩
      exact ⟨_, rfl, K, V⟩
    refine steps_cons (fun a w hk hn => ?_) ?_
    · have h20 : a.eval (.tmp 20) = .agg #[.int .i64 n, .slice ar mr cr] := hn.1
      have h26 : (SigT go i (sgnP sd i (digP B)) (pthP sd i 4)) (a.eval (.tmp 26)) w := hn.2.1
      clear hn
      refine wants_plain rfl ?_
      exact grown_bsgb (.tmp 20) (.tmp 26) rfl h20 h26
    refine steps_cons (fun a w hk hn => ?_) ?_
    · have h10 : a.eval (.tmp 10) = .pointer (some ⟨go, 0, none⟩) := hn.1
      clear hn
      refine wants_plain rfl ?_
      exact grown_move (.tmp 10) rfl h10
    refine steps_cons (fun a w hk hn => ?_) ?_
    · have h28 : a.eval (.tmp 28) = .pointer (some ⟨go, 0, none⟩) := hn.1
      clear hn
      refine wants_plain rfl ?_
      refine grown_call (f := 26) rfl Tryz.func26 (by kernel_rfl) (by kernel_rfl) ?_
      simp only [List.map_toArray, List.map_cons, List.map_nil, h28]
      refine (own_public go base sd (topP sd) rfl w (unhide HOW w hk)).mono ?_
      rintro e w' ⟨ao, m, c, rfl, R, rfl⟩
      exact ⟨_, rfl, Kp.refl _ _, R⟩
    exact trivial
  intro W1 hkW1
  rintro _ rfl
  rintro _ rfl
  rintro _ rfl
  rintro _ rfl
  rintro _ rfl
  intro v25 h25
  intro v26 h26
  intro v27 h27
  rintro _ rfl
  intro v29 h29
  refine fin_nil ?_
  simp only [Act.put, List.set_cons_zero, List.set_cons_succ, List.setIfInBounds_toArray]
  obtain ⟨ap, np, cp, aq, nq, cq, rfl, V27⟩ := h27
  obtain ⟨at', ct, rfl, -⟩ := id h29
  have K59 := unhide HD W1 hkW1
  have G9 := K59.heap (unhide HG5) (by simp)
  have HH29 := hide h29
  have HV := hide V27
  have HK59 := hide K59
  obtain ⟨mt, hmt⟩ : ∃ k, k = (topP sd).length := ⟨_, rfl⟩
  rw [← hmt] at HH29 ⊢
  clear h25 h26 h29 V27 hkW1 K59 hmt
  go_wp2_with (refine wpList_store_flat rfl 30 (.tmp 8) (.tmp 27) rfl g8 0 rfl _ _ [.int .i64 n, .slice ar mr cr, .int .i64 i, .slice ap np cp, .slice aq nq cq] G9 rfl (by simp) Tryz.sgdSize (by simp [Value.oneCell']) #[.int .i64 n, .slice ar mr cr, .int .i64 i, .slice ap np cp, .slice aq nq cq] rfl ?_; intro w9 G9' K9)
  refine bodyPost_ret (results_flat2 rfl _ rfl G9' Tryz.underlying30 rfl Tryz.sgdSize) rfl ?_
  have hgo := unhide HGO
  have h8 := unhide H8
  refine ⟨_, at', mt, ct, rfl, fun S' wz hS' kz => ⟨ar, mr, cr, .slice ap np cp, .slice aq nq cq, rfl, ⟨?_, unhide HRB⟩, ?_⟩, ?_, (((unhide HK5).trans (unhide HK59))).then K9 (fun k hk => .inr (by simp at hk; omega))⟩
  · have hb := ((unhide HS5).kept (unhide HK59) (by simp)).kept K9 (fun k hk => by have := unhide HRO k hk; simp; omega)
    exact hb.kept kz (fun k hk hm => by have := unhide HRO k hk; have := hS' k hm; omega)
  · have hb := unhide HV (g8 :: S') wz (fun q hq => by rcases List.mem_cons.1 hq with e | e; omega; have := hS' q e; omega) ((K9.mono (by simp)).trans (kz.mono (by simp; intro x hx; exact .inr hx)))
    show SigV wz _ (i : Int) (sgnP sd i (digP (bodC n r))) (pthP sd i 4)
    rw [← unhide HBB]
    exact hb
  · exact Sl.offBy (unhide HH29) (noBy_sgd G9) K9
end Go.Proofs.YtbkipibmaghejaaGreatDoor

/-
  Cut by its value; small words for regions over checkpoints.
-/
namespace Go.Proofs.YtbkipibmaghejaaGreatDoor
open Go.RowKit
open Go.Proofs

theorem cut_val (a : Option Addr) (l c : Nat) (n : Nat) (bs : List Int) (w : World) (h : Sl w (.slice a l c) bs) :
    Calls Tryz.prog 13 #[.slice a l c, .int .i64 n] w fun e w' => e = .returned (.slice a (min l n) c) ∧ w' = w := by
  have hl := sl_nlenf h
  obtain ⟨ao, c', e, h1, h2, h3, h4⟩ := h
  injection e with e1 e2 e3
  subst e1
  subst e3
  unfold maxLen at h2
  clear h4 h3 e2
  by_cases hn : n < l
  · have hlt : (n : Int) < (l : Int) := by omega
    have hc : (n : Int) ≤ (c : Int) := by omega
    rw [show min l n = n from by omega]
    clear hl h1 h2
    go_enter Tryz.func13, Tryz.ntmps13
    go_wp2_with fail
    go_ret
    exact ⟨rfl, rfl⟩
  · have hlt : ¬ (n : Int) < (l : Int) := by omega
    rw [show min l n = l from by omega]
    clear hl h1 h2
    go_enter Tryz.func13, Tryz.ntmps13
    go_wp2_with fail
    go_ret
    exact ⟨rfl, rfl⟩
theorem cut_sl {w : World} {a : Option Addr} {l c : Nat} {bs : List Int} (n : Nat) (h : Sl w (.slice a l c) bs) : Sl w (.slice a (min l n) c) (bs.take n) := by
  have hl := sl_nlenf h
  by_cases hn : n ≤ bs.length
  · rw [show min l n = n from by omega]; exact h.take n hn
  · rw [show min l n = l from by omega, List.take_of_length_le (by omega)]; exact h
/-- a new checkpoint's place. -/
def NewC (s0 : Nat) : Tell := fun v w => ∃ g, v = .pointer (some ⟨g, 0, none⟩) ∧ w.heap[g]? = some (.cells #[.int .i64 0, .slice none 0 0] 25) ∧ s0 ≤ g
theorem stable_newc (s0 : Nat) : Tell.stable (NewC s0) := fun _ _ _ k ⟨g, e, h1, h2⟩ => ⟨g, e, k.heap h1 (by simp), h2⟩
theorem grown_newc {o : Oper} {a : Act} {w : World} (s0 : Nat) (hs : s0 ≤ w.heap.size) (ho : o.op = .alloc 25) : grown Tryz.prog w (NewC s0) ((execOp a.eval o).run Tryz.prog w) := by
  refine grown_run (v := .pointer (some ⟨w.heap.size, 0, none⟩)) (w' := w.alloc (.cells #[.int .i64 0, .slice none 0 0] 25)) ?_ ((Kp.refl [] w).alloc _) ⟨_, rfl, heap_alloc_new w _, hs⟩
  unfold execOp
  simp only [ho]
  simp [go_sem]
/-- 32 bytes, whatever they are. -/
def H32 : Tell := fun v w => ∃ r, r.length = 32 ∧ Bs r ∧ Sl w v r
theorem stable_h32 : Tell.stable H32 := fun _ _ _ k ⟨r, h1, h2, h3⟩ => ⟨r, h1, h2, h3.kept k (by simp)⟩
/-- a checkpoint of this size and of a root of 32 bytes. -/
def C32 (n : Int) : Tell := fun v w => ∃ r, r.length = 32 ∧ CkV w v n r
theorem stable_c32 (n : Int) : Tell.stable (C32 n) := fun _ _ _ k ⟨r, h1, h2⟩ => ⟨r, h1, h2.kept k⟩
theorem grown_c32 {o : Oper} {a : Act} {w : World} {n : Int} (x0 x1 : Operand) (ho : o.op = .build 25 #[(0, x0), (1, x1)]) (h0 : a.eval x0 = .int .i64 n) (h1 : H32 (a.eval x1) w) : grown Tryz.prog w (C32 n) ((execOp a.eval o).run Tryz.prog w) := by
  obtain ⟨r, h2, h3, h4⟩ := h1
  obtain ⟨ao, c, e, hr⟩ := id h4
  rw [e] at h4
  refine grown_run (v := .agg #[.int .i64 n, .slice ao r.length c]) ?_ (Kp.refl _ _) ⟨r, h2, ao, _, c, rfl, h4, h3⟩
  obtain ⟨ρ, hρ, _⟩ := eval_is a
  rw [hρ] at e h0 ⊢
  unfold execOp
  simp only [ho]
  simp [go_sem, e, h0]
theorem grown_blenX {o : Oper} {a : Act} {w : World} (s : Operand) (bs : List Int) (n : Nat) (ho : o.op = .call { callee := .builtin .len, args := #[s], argTypes := #[23] }) (h : Sl w (a.eval s) bs) (hn : bs.length = n) : grown Tryz.prog w (Is (.int .i64 (n : Nat))) ((execOp a.eval o).run Tryz.prog w) := by
  obtain ⟨ao, c, e, h1, h2, h3, h4⟩ := h
  subst hn
  refine grown_run (v := .int .i64 (bs.length : Nat)) (w' := w) ?_ (Kp.refl _ _) rfl
  obtain ⟨ρ, hρ, _⟩ := eval_is a
  rw [hρ] at e ⊢
  unfold execOp
  simp only [ho]
  simp [go_sem, e]
theorem noBy_chk {w : World} {g : Nat} {n : Int} {a1 : Option Addr} {n1 c1 : Nat} {t : TypeId} {fr : Nat × Nat} (hg : w.heap[g]? = some (.cells #[.int .i64 n, .slice a1 n1 c1] t fr)) : NoBy w [g] := by
  intro x hx
  obtain rfl : x = g := by simpa using hx
  refine ⟨_, _, _, hg, fun x hx y => ?_⟩
  rcases (by simpa using hx : x = .int .i64 n ∨ x = .slice a1 n1 c1) with rfl | rfl <;> simp
theorem CkV.offBy {w w' : World} {v : Value} {n : Int} {r : List Int} {S : List Nat} (h : CkV w v n r) (hS : NoBy w S) (k : Kp S w w') : CkV w' v n r := by
  obtain ⟨a, m, c, e, h1, h2⟩ := h
  exact ⟨a, m, c, e, h1.offBy hS k, h2⟩
end Go.Proofs.YtbkipibmaghejaaGreatDoor

/-
  The contract of the law package's equal, of signed checkpoints that are alike.
-/
namespace Go.Proofs.YtbkipibmaghejaaGreatDoor
open Go.RowKit
open Go.Proofs

set_option maxRecDepth 100000 in
set_option maxHeartbeats 2000000 in
theorem lequal_any (v u : Value) (s : Sg) (w : World) (hV : SgV w v s) (hU : SgV w u s) :
    Calls Tryz.prog 15 #[v, u] w fun e w' => e = .returned (.bool true) ∧ Kp [] w w' := by
  obtain ⟨n, r, i, ps, qs⟩ := s
  obtain ⟨ar, mr, cr, ap, np, cp, aq, nq, cq, rfl, ⟨hS1, hB1⟩, hG1⟩ := hV.shape
  obtain ⟨br, kr, dr, bp, kp, dp, bq, kq, dq, rfl, ⟨hS2, hB2⟩, hG2⟩ := hU.shape
  simp only at hS1 hB1 hG1 hS2 hB2 hG2 ⊢
  obtain ⟨w2, hw2⟩ : ∃ w2, w2 = (w.alloc (.cells #[.int .i64 n, .slice ar mr cr, .int .i64 i, .slice ap np cp, .slice aq nq cq] 30)).alloc (.cells #[.int .i64 n, .slice br kr dr, .int .i64 i, .slice bp kp dp, .slice bq kq dq] 30) := ⟨_, rfl⟩
  obtain ⟨g1, hg1⟩ : ∃ g, g = w.heap.size := ⟨_, rfl⟩
  obtain ⟨g2, hg2⟩ : ∃ g, g = w.heap.size + 1 := ⟨_, rfl⟩
  have K2 : Kp [] w w2 := by rw [hw2]; exact ((Kp.refl [] w).alloc _).alloc _
  have G1 : w2.heap[g1]? = some (.cells #[.int .i64 n, .slice ar mr cr, .int .i64 i, .slice ap np cp, .slice aq nq cq] 30 (0, 0)) := by rw [hw2, hg1]; exact heap_alloc2_old w _ _
  have G2 : w2.heap[g2]? = some (.cells #[.int .i64 n, .slice br kr dr, .int .i64 i, .slice bp kp dp, .slice bq kq dq] 30 (0, 0)) := by rw [hw2, hg2]; exact heap_alloc2_new w _ _
  have HC := hide (rcksame_any (.agg #[.int .i64 n, .slice ar mr cr]) (.agg #[.int .i64 n, .slice br kr dr]) n n r r true (by simp) w2 ⟨ar, mr, cr, rfl, hS1.kept K2 (by simp), hB1⟩ ⟨br, kr, dr, rfl, hS2.kept K2 (by simp), hB2⟩)
  have HRS := hide (fun w' (k : Kp [] w w') => refsame_any (.agg #[.int .i64 i, .slice ap np cp, .slice aq nq cq]) (.agg #[.int .i64 i, .slice bp kp dp, .slice bq kq dq]) i ps qs w' (hG1.kept k) (hG2.kept k))
  have HK2 := hide K2
  have HG1 := hide G1
  have HG2 := hide G2
  have c0 : w2.cell? ⟨g1, 0, none⟩ = some (.int .i64 n) := by rw [cell_of_row _ g1 0 _ _ _ (G1)]; rfl
  have c1 : w2.cell? ⟨g1, 1, none⟩ = some (.slice ar mr cr) := by rw [cell_of_row _ g1 1 _ _ _ (G1)]; rfl
  have d0 : w2.cell? ⟨g2, 0, none⟩ = some (.int .i64 n) := by rw [cell_of_row _ g2 0 _ _ _ (G2)]; rfl
  have d1 : w2.cell? ⟨g2, 1, none⟩ = some (.slice br kr dr) := by rw [cell_of_row _ g2 1 _ _ _ (G2)]; rfl
  rw [hw2] at c0 c1 d0 d1
  rw [hg1] at c0 c1
  rw [hg2] at d0 d1
  have HW2 := hide hw2
  have H1 := hide hg1
  have H2 := hide hg2
  clear hS1 hB1 hG1 hS2 hB2 hG2 hV hU K2 G1 G2 hw2 hg1 hg2
  go_enter Tryz.func15, Tryz.ntmps15
  go_wp2_with fail
  rw [← unhide HW2, ← unhide H2, ← unhide H1]
  refine (unhide HC).mono ?_
  rintro ee w3 ⟨rfl, K3⟩
  have G13 := K3.heap (unhide HG1) (by simp)
  have G23 := K3.heap (unhide HG2) (by simp)
  have e2 : w3.cell? ⟨g1, 2, none⟩ = some (.int .i64 i) := by rw [cell_of_row _ g1 2 _ _ _ (G13)]; rfl
  have e3 : w3.cell? ⟨g1, 3, none⟩ = some (.slice ap np cp) := by rw [cell_of_row _ g1 3 _ _ _ (G13)]; rfl
  have e4 : w3.cell? ⟨g1, 4, none⟩ = some (.slice aq nq cq) := by rw [cell_of_row _ g1 4 _ _ _ (G13)]; rfl
  have f2 : w3.cell? ⟨g2, 2, none⟩ = some (.int .i64 i) := by rw [cell_of_row _ g2 2 _ _ _ (G23)]; rfl
  have f3 : w3.cell? ⟨g2, 3, none⟩ = some (.slice bp kp dp) := by rw [cell_of_row _ g2 3 _ _ _ (G23)]; rfl
  have f4 : w3.cell? ⟨g2, 4, none⟩ = some (.slice bq kq dq) := by rw [cell_of_row _ g2 4 _ _ _ (G23)]; rfl
  have HK3 := hide ((unhide HK2).trans K3)
  have HR := hide (unhide HRS w3 (unhide HK3))
  clear HC K3 G13 G23 c0 c1 d0 d1 HRS
  go_wp2_with fail
  refine (unhide HR).mono ?_
  rintro ee w4 ⟨rfl, K4⟩
  have HK4 := hide ((unhide HK3).trans K4)
  clear HR K4
  go_wp2_with fail
  go_ret
  exact ⟨rfl, unhide HK4⟩
end Go.Proofs.YtbkipibmaghejaaGreatDoor

/-
  The contract of the law package's known.
-/
namespace Go.Proofs.YtbkipibmaghejaaGreatDoor
open Go.RowKit
open Go.Proofs

theorem made_zeros (n : Nat) : (madeCells (Value.int .u8 0).cells (n * 1)).toList = (List.replicate n (0 : Int)).map (Value.int .u8) := by
  have := toList_madeCells_one (.int .u8 0) (n * 1)
  rw [Nat.mul_one] at this ⊢
  simpa [Value.cells] using this

set_option maxRecDepth 100000 in
set_option maxHeartbeats 4000000 in
theorem xknown_any (w : World) (hG : Gl w) :
    Calls Tryz.prog 12 #[] w fun e w' => e = .returned (.bool true) ∧ Kp [] w w' := by
  obtain ⟨i0, hi0, hz0, hz1, hz2⟩ := info_parts Tryz.info5
  have HG := hide hG
  obtain ⟨sd, hsd⟩ : ∃ x, x = seedX 1 := ⟨_, rfl⟩
  obtain ⟨r, hr⟩ : ∃ x, x = hashX 1 := ⟨_, rfl⟩
  have HSB : Hid (Bs sd) := hide (by rw [hsd]; exact seedX_bs 1)
  have HSL : Hid (sd.length = 32) := hide (by rw [hsd]; exact seedX_len 1)
  have HRB : Hid (Bs r) := hide (by rw [hr]; exact hashX_bs 1)
  have hR3 : rgtC 3 r = true := (rgtC_iff _ _).2 ⟨by omega, by rw [hr]; exact hashX_len 1⟩
  have HR3 := hide hR3
  have HVE : Hid (true = (sgnC sd 0 3 r).ver (topP sd)) := hide (sgnC_ver sd 0 (by omega) 3 r hR3).symm
  have hC := xseed_any 1 w
  rw [← hsd] at hC
  have HC1 := hide hC
  have hC := fun w => xhash_any 1 w
  rw [← hr] at hC
  have HCH := hide hC
  clear hG hsd hr hC hR3
  go_enter Tryz.func12, Tryz.ntmps12
  go_wp2_with fail
  refine (unhide HC1).mono ?_
  rintro ee w1 ⟨a1, m1, c1, rfl, R1, K1⟩
  have HN2 := hide (new_own (.slice a1 m1 c1) sd w1 R1.sl (unhide HSB) (unhide HSL))
  have HS1 := hide R1.sl
  have HK1 := hide K1
  clear HC1 R1 K1
  go_wp2_with fail
  refine (unhide HN2).mono ?_
  rintro ee w2 ⟨go, base, rfl, O2, K2⟩
  have HO2 := hide O2
  have HS2 := hide ((unhide HS1).kept K2 (by simp))
  have HK2 := hide ((unhide HK1).trans K2)
  have HC2 := hide (unhide HCH w2)
  clear HN2 O2 K2 HS1 HK1 HCH
  go_wp2_with fail
  refine (unhide HC2).mono ?_
  rintro ee w3 ⟨a3, m3, c3, rfl, R3, K3⟩
  have hS3 := (unhide HS2).kept K3 (by simp)
  have HK3 := hide ((unhide HK2).trans K3)
  have hC := cksign_ok (.slice a1 m1 c1) sd 0 (.agg #[.int .i64 3, .slice a3 m3 c3]) 3 r w3 hS3 (unhide HSB) (unhide HSL) (by omega) ⟨a3, m3, c3, rfl, R3.sl, unhide HRB⟩ (unhide HR3) ((unhide HG).kept (unhide HK3) (by simp))
  simp only [show ((0 : Nat) : Int) = 0 from rfl] at hC
  have HC3 := hide hC
  have HO3 := hide ((unhide HO2).kept K3)
  have HS3 := hide hS3
  clear HC2 R3 K3 hS3 hC HS2 HO2 HK2
  go_wp2_with fail
  refine (unhide HC3).mono ?_
  rintro ee w4 ⟨v4, rfl, V4, K4⟩
  obtain ⟨ar, mr, cr, ap, np, cp, aq, nq, cq, e4, -⟩ := V4.shape
  have e5 : v4 = .agg #[.int .i64 3, .slice ar mr cr, .int .i64 0, .slice ap np cp, .slice aq nq cq] := e4
  subst e5
  have HV4 := hide V4
  have HK4 := hide ((unhide HK3).trans K4)
  have HO4 := hide ((unhide HO3).kept K4)
  have HS4 := hide ((unhide HS3).kept K4 (by simp))
  have Ga := heap_alloc_new w4 (.cells #[.int .i64 0, .slice none 0 0, .int .i64 0, .slice none 0 0, .slice none 0 0] 30)
  have HKa : Hid (Kp [] w4 (w4.alloc (.cells #[.int .i64 0, .slice none 0 0, .int .i64 0, .slice none 0 0, .slice none 0 0] 30))) := (Kp.refl [] w4).alloc _
  clear HC3 V4 K4 e4 HO3 HS3 HK3
  go_wp2_with (refine wpList_store_flat rfl 30 (.tmp 3) (.tmp 15) rfl w4.heap.size 0 rfl _ _ [.int .i64 3, .slice ar mr cr, .int .i64 0, .slice ap np cp, .slice aq nq cq] Ga rfl (by simp) Tryz.sgdSize (by simp [Value.oneCell']) #[.int .i64 3, .slice ar mr cr, .int .i64 0, .slice ap np cp, .slice aq nq cq] rfl ?_; intro w5 G5 K5; refine Hid.out ?_)
  obtain ⟨g3, hg3⟩ : ∃ g, g = w4.heap.size := ⟨_, rfl⟩
  have K45 : Kp [] w4 w5 := (unhide HKa).then K5 (fun i hi => .inr (by simp at hi; omega))
  rw [← hg3] at G5 ⊢
  have HG5 := hide G5
  have HV5 := hide ((unhide HV4).kept K45)
  have HO5 := hide ((unhide HO4).kept K45)
  have HS5 := hide ((unhide HS4).kept K45 (by simp))
  have HK5 := hide ((unhide HK4).trans K45)
  clear Ga HKa G5 K5 K45 hg3 HV4 HO4 HS4 HK4
  refine hide ?_
  go_wp2_with (at_make; refine wpList_make_full _ rfl _ _ 23 rfl w5.heap.size 5 i0 (.int .u8 0) 1 Tryz.underlying23 hi0 hz0 hz1 .i64 .i64 _ _ 31 rfl rfl (by omega) (by omega) (by rw [hz2]; omega) (by unfold maxLen; omega) (Nat.le_refl _) ?_; intro w6 o6 g6; refine Hid.out ?_)
  have S6 : Sl w6 (.slice (some ⟨w5.heap.size, 0, none⟩) 31 31) (List.replicate 31 0) := Sl.of_owns (by rw [made_zeros] at o6; simpa using o6)
  have K6 : Kp [] w5 w6 := (Kp.refl [] w5).grown g6 (by intro k hk; cases hk)
  have HC6 := hide (cksign_no (.slice a1 m1 c1) sd 0 (.agg #[.int .i64 3, .slice (some ⟨w5.heap.size, 0, none⟩) 31 31]) 3 (List.replicate 31 0) w6 ((unhide HS5).kept K6 (by simp)) ⟨_, _, _, rfl, S6, fun b hb => by have := List.eq_of_mem_replicate hb; omega⟩ (by decide))
  have HG6 := hide (K6.heap (unhide HG5) (by simp))
  have HV6 := hide ((unhide HV5).kept K6)
  have HO6 := hide ((unhide HO5).kept K6)
  have HK6 := hide ((unhide HK5).trans K6)
  clear o6 g6 S6 K6 HS5 HG5 HV5 HO5 HK5
  refine hide ?_
  go_wp2_with fail
  refine (unhide HC6).mono ?_
  rintro ee w7 ⟨rfl, K7⟩
  have HG7 := hide (K7.heap (unhide HG6) (by simp))
  have HV7 := hide ((unhide HV6).kept K7)
  have HO7 := hide ((unhide HO6).kept K7)
  have HK7 := hide ((unhide HK6).trans K7)
  have Ga := heap_alloc_new w7 (.cells #[.int .i64 0, .slice none 0 0, .int .i64 0, .slice none 0 0, .slice none 0 0] 30)
  have HKa : Hid (Kp [] w7 (w7.alloc (.cells #[.int .i64 0, .slice none 0 0, .int .i64 0, .slice none 0 0, .slice none 0 0] 30))) := (Kp.refl [] w7).alloc _
  clear HC6 K7 HG6 HV6 HO6 HK6
  go_wp2_with (refine wpList_store_flat rfl 30 (.tmp 5) (.tmp 22) rfl w7.heap.size 0 rfl _ _ [.int .i64 0, .slice none 0 0, .int .i64 0, .slice none 0 0, .slice none 0 0] Ga rfl (by simp) Tryz.sgdSize (by simp [Value.oneCell']) #[.int .i64 0, .slice none 0 0, .int .i64 0, .slice none 0 0, .slice none 0 0] rfl ?_; intro w8 G8 K8; refine Hid.out ?_)
  have K78 : Kp [] w7 w8 := (unhide HKa).then K8 (fun i hi => .inr (by simp at hi; omega))
  have HD : Hid (∀ w', Kp [] w8.drew w' → Kp [] w7 w') := fun w' k' => K78.trans ((kp_drew w8).trans k')
  have HS3 : Hid (∀ w', Kp [] w8.drew w' → w'.heap[g3]? = some (.cells #[.int .i64 3, .slice ar mr cr, .int .i64 0, .slice ap np cp, .slice aq nq cq] 30 (0, 0))) := fun w' k' => (unhide HD w' k').heap (unhide HG7) (by simp)
  have HOW : Hid (∀ w', Kp [] w8.drew w' → Ow w' base go sd 5) := fun w' k' => (unhide HO7).kept (unhide HD w' k')
  have HV : Hid (∀ w', Kp [] w8.drew w' → SgV w' (.agg #[.int .i64 3, .slice ar mr cr, .int .i64 0, .slice ap np cp, .slice aq nq cq]) (sgnC sd 0 3 r)) := fun w' k' => (unhide HV7).kept (unhide HD w' k')
  have HGW : Hid (∀ w', Kp [] w8.drew w' → Gl w') := fun w' k' => (unhide HG).kept ((unhide HK7).trans (unhide HD w' k')) (by simp)
  clear Ga HKa G8 K8 K78
  refine hide ?_
  go_wp2_with fail
  refine region_grow Tryz.mixed [Is (.int .i64 0), Is (.bool true), Is (.bool true), Is (.pointer (some ⟨go, 0, none⟩)), SlT (topP sd), Is (.agg #[.int .i64 3, .slice ar mr cr, .int .i64 0, .slice ap np cp, .slice aq nq cq]), Is (.bool true), Is (.bool true), Is (.bool true), Is (.pointer (some ⟨g3, 0, none⟩)), Is (.pointer (some ⟨g3, 0, none⟩)), Is (.int .i64 3), Is (.bool true), Is (.bool true), Is (.bool true), Is (.int .i64 12), Is (.bool true), Is (.bool true), Is (.bool true)] [[(4, none)], [(24, some 0)], [(25, some 1)], [(2, none), (26, some 2)], [(27, some 3), (26, some 2)], [(3, none), (26, some 2)], [(28, some 4), (29, some 5), (26, some 2)], [(26, some 2), (30, some 6)], [(31, some 7)], [(3, none), (32, some 8)], [(33, some 9), (32, some 8)], [(34, some 10), (32, some 8)], [(35, some 11), (32, some 8)], [(32, some 8), (36, some 12)], [(37, some 13)], [(6, none), (38, some 14)], [(39, some 15), (38, some 14)], [(38, some 14), (40, some 16)], [(41, some 17)]] (by kernel_rfl) ?_ ?_ ?_
  · simp only [List.mem_cons, List.not_mem_nil, or_false]
    intro R hR
    rcases hR with rfl | rfl | rfl | rfl | rfl | rfl | rfl | rfl | rfl | rfl | rfl | rfl | rfl | rfl | rfl | rfl | rfl | rfl | rfl <;> first | exact stable_is _ | exact stable_sl _
  · refine steps_cons (fun a w hk hn => ?_) ?_
    · have h4 : a.eval (.tmp 4) = .int .i64 0 := hn.1
      clear hn
      refine wants_plain rfl ?_
      exact grown_move (.tmp 4) rfl h4
    refine steps_cons (fun a w hk hn => ?_) ?_
    · have h24 : a.eval (.tmp 24) = .int .i64 0 := hn.1
      clear hn
      refine wants_plain rfl ?_
      refine grown_run (v := .bool true) ?_ (Kp.refl _ _) rfl
      obtain ⟨ρ, hρ, hc, hf, hg⟩ := eval_is a
      rw [hρ] at h24 ⊢
      simp [go_sem, hc, h24]
    refine steps_cons (fun a w hk hn => ?_) ?_
    · have h25 : a.eval (.tmp 25) = .bool true := hn.1
      clear hn
      refine wants_plain rfl ?_
      exact grown_move (.tmp 25) rfl h25
    refine steps_cons (fun a w hk hn => ?_) ?_
    · have h2 : a.eval (.tmp 2) = .pointer (some ⟨go, 0, none⟩) := hn.1
      have h26 : a.eval (.tmp 26) = .bool true := hn.2.1
      clear hn
      refine wants_guard (d := 26) rfl rfl h26 ?_
      exact grown_move (.tmp 2) rfl h2
    refine steps_cons (fun a w hk hn => ?_) ?_
    · have h27 : a.eval (.tmp 27) = .pointer (some ⟨go, 0, none⟩) := hn.1
      have h26 : a.eval (.tmp 26) = .bool true := hn.2.1
      clear hn
      refine wants_guard (d := 26) rfl rfl h26 ?_
      refine grown_call (f := 26) rfl Tryz.func26 (by kernel_rfl) (by kernel_rfl) ?_
      simp only [List.map_toArray, List.map_cons, List.map_nil, h27]
      refine (own_public go base sd (topP sd) rfl w (unhide HOW w hk)).mono ?_
      rintro e w' ⟨ao, m, c, rfl, R, rfl⟩
      exact ⟨_, rfl, Kp.refl _ _, R⟩
    refine steps_cons (fun a w hk hn => ?_) ?_
    · have h3 : a.eval (.tmp 3) = .pointer (some ⟨g3, 0, none⟩) := hn.1
      have h26 : a.eval (.tmp 26) = .bool true := hn.2.1
      clear hn
      refine wants_guard (d := 26) rfl rfl h26 ?_
      exact grown_loadf 30 (.tmp 3) rfl g3 0 h3 _ _ _ _ (unhide HS3 w hk) [.int .i64 3, .slice ar mr cr, .int .i64 0, .slice ap np cp, .slice aq nq cq] (flat_in rfl) Tryz.underlying30 rfl Tryz.sgdSize rfl
    refine steps_cons (fun a w hk hn => ?_) ?_
    · have h28 : Sl w (a.eval (.tmp 28)) (topP sd) := hn.1
      have h29 : a.eval (.tmp 29) = .agg #[.int .i64 3, .slice ar mr cr, .int .i64 0, .slice ap np cp, .slice aq nq cq] := hn.2.1
      have h26 : a.eval (.tmp 26) = .bool true := hn.2.2.1
      clear hn
      refine wants_guard (d := 26) rfl rfl h26 ?_
      refine grown_call (f := 22) rfl Tryz.func22 (by kernel_rfl) (by kernel_rfl) ?_
      simp only [List.map_toArray, List.map_cons, List.map_nil, h29]
      refine (ckverify_any _ (topP sd) _ (sgnC sd 0 3 r) true (unhide HVE) w h28 (topP_ok sd).2 (unhide HV w hk) (unhide HGW w hk)).mono ?_
      rintro e w' ⟨rfl, K⟩
      exact ⟨_, rfl, K, rfl⟩
    refine steps_cons (fun a w hk hn => ?_) ?_
    · have h26 : a.eval (.tmp 26) = .bool true := hn.1
      have h30 : a.eval (.tmp 30) = .bool true := hn.2.1
      clear hn
      refine wants_plain rfl ?_
      exact grown_pick _ _ _ true rfl h26 h30
    refine steps_cons (fun a w hk hn => ?_) ?_
    · have h31 : a.eval (.tmp 31) = .bool true := hn.1
      clear hn
      refine wants_plain rfl ?_
      exact grown_move (.tmp 31) rfl h31
    refine steps_cons (fun a w hk hn => ?_) ?_
    · have h3 : a.eval (.tmp 3) = .pointer (some ⟨g3, 0, none⟩) := hn.1
      have h32 : a.eval (.tmp 32) = .bool true := hn.2.1
      clear hn
      refine wants_guard (d := 32) rfl rfl h32 ?_
      refine grown_run (v := .pointer (some ⟨g3, 0, none⟩)) ?_ (Kp.refl _ _) rfl
      obtain ⟨ρ, hρ, hc, hf, hg⟩ := eval_is a
      rw [hρ] at h3 ⊢
      simp [go_sem, h3]
    refine steps_cons (fun a w hk hn => ?_) ?_
    · have h33 : a.eval (.tmp 33) = .pointer (some ⟨g3, 0, none⟩) := hn.1
      have h32 : a.eval (.tmp 32) = .bool true := hn.2.1
      clear hn
      refine wants_guard (d := 32) rfl rfl h32 ?_
      refine grown_run (v := .pointer (some ⟨g3, 0, none⟩)) ?_ (Kp.refl _ _) rfl
      obtain ⟨ρ, hρ, hc, hf, hg⟩ := eval_is a
      rw [hρ] at h33 ⊢
      simp [go_sem, h33]
    refine steps_cons (fun a w hk hn => ?_) ?_
    · have h34 : a.eval (.tmp 34) = .pointer (some ⟨g3, 0, none⟩) := hn.1
      have h32 : a.eval (.tmp 32) = .bool true := hn.2.1
      clear hn
      refine wants_guard (d := 32) rfl rfl h32 ?_
      refine grown_run (v := .int .i64 3) ?_ (Kp.refl _ _) rfl
      have hcell : w.cell? ⟨g3, 0, none⟩ = some (.int .i64 3) := by rw [cell_of_row w g3 0 _ _ _ (unhide HS3 w hk)]; rfl
      obtain ⟨ρ, hρ, hc, hf, hg⟩ := eval_is a
      rw [hρ] at h34 ⊢
      simp [go_sem, h34, hcell]
    refine steps_cons (fun a w hk hn => ?_) ?_
    · have h35 : a.eval (.tmp 35) = .int .i64 3 := hn.1
      have h32 : a.eval (.tmp 32) = .bool true := hn.2.1
      clear hn
      refine wants_guard (d := 32) rfl rfl h32 ?_
      refine grown_run (v := .bool true) ?_ (Kp.refl _ _) rfl
      obtain ⟨ρ, hρ, hc, hf, hg⟩ := eval_is a
      rw [hρ] at h35 ⊢
      simp [go_sem, hc, h35]
    refine steps_cons (fun a w hk hn => ?_) ?_
    · have h32 : a.eval (.tmp 32) = .bool true := hn.1
      have h36 : a.eval (.tmp 36) = .bool true := hn.2.1
      clear hn
      refine wants_plain rfl ?_
      exact grown_pick _ _ _ true rfl h32 h36
    refine steps_cons (fun a w hk hn => ?_) ?_
    · have h37 : a.eval (.tmp 37) = .bool true := hn.1
      clear hn
      refine wants_plain rfl ?_
      exact grown_move (.tmp 37) rfl h37
    refine steps_cons (fun a w hk hn => ?_) ?_
    · have h6 : a.eval (.tmp 6) = .int .i64 12 := hn.1
      have h38 : a.eval (.tmp 38) = .bool true := hn.2.1
      clear hn
      refine wants_guard (d := 38) rfl rfl h38 ?_
      exact grown_move (.tmp 6) rfl h6
    refine steps_cons (fun a w hk hn => ?_) ?_
    · have h39 : a.eval (.tmp 39) = .int .i64 12 := hn.1
      have h38 : a.eval (.tmp 38) = .bool true := hn.2.1
      clear hn
      refine wants_guard (d := 38) rfl rfl h38 ?_
      refine grown_run (v := .bool true) ?_ (Kp.refl _ _) rfl
      obtain ⟨ρ, hρ, hc, hf, hg⟩ := eval_is a
      rw [hρ] at h39 ⊢
      simp [go_sem, hc, h39]
    refine steps_cons (fun a w hk hn => ?_) ?_
    · have h38 : a.eval (.tmp 38) = .bool true := hn.1
      have h40 : a.eval (.tmp 40) = .bool true := hn.2.1
      clear hn
      refine wants_plain rfl ?_
      exact grown_pick _ _ _ true rfl h38 h40
    refine steps_cons (fun a w hk hn => ?_) ?_
    · have h41 : a.eval (.tmp 41) = .bool true := hn.1
      clear hn
      refine wants_plain rfl ?_
      exact grown_assign (.tmp 41) rfl h41
    exact trivial
  intro W1 hkW1
  rintro _ rfl
  rintro _ rfl
  rintro _ rfl
  rintro _ rfl
  intro v28 h28
  rintro _ rfl
  rintro _ rfl
  rintro _ rfl
  rintro _ rfl
  rintro _ rfl
  rintro _ rfl
  rintro _ rfl
  rintro _ rfl
  rintro _ rfl
  rintro _ rfl
  rintro _ rfl
  rintro _ rfl
  rintro _ rfl
  rintro _ rfl
  refine fin_nil ?_
  simp only [Act.put, List.set_cons_zero, List.set_cons_succ, List.setIfInBounds_toArray]
  go_wp2_with fail
  go_ret
  exact ⟨rfl, (unhide HK7).trans (unhide HD W1 hkW1)⟩
end Go.Proofs.YtbkipibmaghejaaGreatDoor
