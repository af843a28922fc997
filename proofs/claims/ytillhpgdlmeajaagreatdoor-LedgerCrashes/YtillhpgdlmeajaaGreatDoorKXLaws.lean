/-
  The contracts of the law package's helpers Seed and Hash, as functions.
-/
import Derived.Test.YtillhpgdlmeajaaGreatDoorKLSmalls
import Derived.Test.YtillhpgdlmeajaaGreatDoorKOKeeps
import Derived.Test.YtillhpgdlmeajaaGreatDoorKHSmalls
import Derived.Test.YtillhpgdlmeajaaGreatDoorKHRefs
import Derived.Test.YtillhpgdlmeajaaGreatDoorKXRefB
import Derived.Test.YtillhpgdlmeajaaGreatDoorKXSig
import Derived.Test.YtillhpgdlmeajaaGreatDoorKSOwner
import Derived.Test.YtillhpgdlmeajaaGreatDoorKXSpec
import Derived.Test.YtillhpgdlmeajaaGreatDoorKLMan
namespace Go.Proofs.YtillhpgdlmeajaaGreatDoor
open Go.RowKit
open Go.Proofs

def hashX (n : Int) : List Int := sha [98, wiP n 0 100000 % 256]
def seedX (n : Int) : List Int := sha [99, wiP n 0 1000 % 5]
theorem hashX_len (n : Int) : (hashX n).length = 32 := sha_len _
theorem hashX_bs (n : Int) : Bs (hashX n) := sha_bs _
theorem seedX_len (n : Int) : (seedX n).length = 32 := sha_len _
theorem seedX_bs (n : Int) : Bs (seedX n) := sha_bs _
theorem wrap_u8 (f : Int) : IntKind.u8.wrap f = f % 256 := by simp [IntKind.wrap, IntKind.signed, IntKind.bits]

set_option maxRecDepth 100000 in
set_option maxHeartbeats 1000000 in
theorem xhash_any (n : Int) (w : World) :
    Calls Tryz.prog 138 #[.int .i64 n] w fun e w' => ∃ ao m c, e = .returned (.slice ao m c) ∧ Row w' w.heap.size (.slice ao m c) (hashX n) ∧ Kp [] w w' := by
  have HW := hide (within_wi n 0 100000 w (by omega) (by omega) (by omega))
  obtain ⟨x, hx⟩ : ∃ x, x = wiP n 0 100000 := ⟨_, rfl⟩
  have hu := wrap_u8 x
  rw [← hx] at HW
  have HX := hide hx
  clear hx
  go_enter Tryz.func138, Tryz.ntmps138
  go_wp2_with fail
  refine (unhide HW).mono ?_
  rintro ee w1 ⟨rfl, hw⟩
  subst w1
  clear HW
  go_wp2_with fail
  obtain ⟨ob, hob⟩ : ∃ o : Obj, o = (.cells #[.int .u8 (x % 256)] 5) := ⟨_, rfl⟩
  have hP : Sl (w.alloc ob) (.slice (some ⟨w.heap.size, 0, none⟩) 1 1) [x % 256] := by
    rw [hob]; exact Sl.block (cs := [x % 256]) (t := 5) (fr := (0, 0)) (heap_alloc_new w _) (by simp [maxLen])
  have hPB : Bs [x % 256] := by
    intro b hb
    obtain rfl : b = x % 256 := by simpa using hb
    omega
  have Ka := (Kp.refl [] w).alloc ob
  have HL := lists1 hP hPB
  rw [show (w.alloc ob).heap.size = w.heap.size + 1 by simp] at HL
  have HK := hide (Ka.alloc (.cells #[.slice (some ⟨w.heap.size, 0, none⟩) 1 1] 22))
  rw [← hob]
  refine (reftagged_any 98 _ _ _ rfl _ HL (by omega) (by omega) (by simp) (by simp)).mono ?_
  rintro ee w2 ⟨ao2, m2, c2, rfl, R2, K2⟩
  have hr : sha (98 :: cat [(Value.slice (some ⟨w.heap.size, 0, none⟩) 1 1, [x % 256])]) = hashX n := by unfold hashX; rw [← unhide HX]; rfl
  rw [hr] at R2
  have HR2 := hide (row_new R2 (unhide HK))
  have HK2 := hide ((unhide HK).trans K2)
  clear HL HK hob R2 K2 Ka hP hPB hr hu
  go_wp2_with fail
  go_ret
  exact ⟨ao2, m2, c2, rfl, unhide HR2, unhide HK2⟩

set_option maxRecDepth 100000 in
set_option maxHeartbeats 1000000 in
theorem xseed_any (n : Int) (w : World) :
    Calls Tryz.prog 9 #[.int .i64 n] w fun e w' => ∃ ao m c, e = .returned (.slice ao m c) ∧ Row w' w.heap.size (.slice ao m c) (seedX n) ∧ Kp [] w w' := by
  have HW := hide (within_wi n 0 1000 w (by omega) (by omega) (by omega))
  obtain ⟨x, hx⟩ : ∃ x, x = wiP n 0 1000 := ⟨_, rfl⟩
  obtain ⟨hxb, hxc⟩ := wiP_ge n 0 1000 (by omega)
  rw [← hx] at HW hxb hxc
  have HX := hide hx
  clear hx
  go_enter Tryz.func9, Tryz.ntmps9
  go_wp2_with fail
  refine (unhide HW).mono ?_
  rintro ee w1 ⟨rfl, hw⟩
  subst w1
  clear HW
  go_wp2_with fail
  obtain ⟨ob, hob⟩ : ∃ o : Obj, o = (.cells #[.int .u8 (x % 5)] 5) := ⟨_, rfl⟩
  have hP : Sl (w.alloc ob) (.slice (some ⟨w.heap.size, 0, none⟩) 1 1) [x % 5] := by
    rw [hob]; exact Sl.block (cs := [x % 5]) (t := 5) (fr := (0, 0)) (heap_alloc_new w _) (by simp [maxLen])
  have hPB : Bs [x % 5] := by
    intro b hb
    obtain rfl : b = x % 5 := by simpa using hb
    omega
  have Ka := (Kp.refl [] w).alloc ob
  have HL := lists1 hP hPB
  rw [show (w.alloc ob).heap.size = w.heap.size + 1 by simp] at HL
  have HK := hide (Ka.alloc (.cells #[.slice (some ⟨w.heap.size, 0, none⟩) 1 1] 22))
  rw [← hob]
  refine (reftagged_any 99 _ _ _ rfl _ HL (by omega) (by omega) (by simp) (by simp)).mono ?_
  rintro ee w2 ⟨ao2, m2, c2, rfl, R2, K2⟩
  have hr : sha (99 :: cat [(Value.slice (some ⟨w.heap.size, 0, none⟩) 1 1, [x % 5])]) = seedX n := by unfold seedX; rw [← unhide HX]; rfl
  rw [hr] at R2
  have HR2 := hide (row_new R2 (unhide HK))
  have HK2 := hide ((unhide HK).trans K2)
  clear HL HK hob R2 K2 Ka hP hPB hr
  go_wp2_with fail
  go_ret
  exact ⟨ao2, m2, c2, rfl, unhide HR2, unhide HK2⟩
end Go.Proofs.YtillhpgdlmeajaaGreatDoor

/-
  The contract of the law package's signed: a checkpoint that is signed, as it is drawn.
-/
namespace Go.Proofs.YtillhpgdlmeajaaGreatDoor
open Go.RowKit
open Go.Proofs

def SigT (b : Nat) (i : Int) (ps qs : List (List Int)) : Tell := fun v w => SigA b w v i ps qs
theorem stable_sigt (b : Nat) (i : Int) (ps qs : List (List Int)) : Tell.stable (SigT b i ps qs) := fun _ _ _ k h => h.kept (S := []) (by simp) k
def SgB (b : Nat) (n : Int) (x : Value) (i : Int) (ps qs : List (List Int)) : Tell := fun v w => ∃ ap np cp aq nq cq, v = .agg #[.int .i64 n, x, .int .i64 i, .slice ap np cp, .slice aq nq cq] ∧ SigA b w (.agg #[.int .i64 i, .slice ap np cp, .slice aq nq cq]) i ps qs
theorem stable_sgb (b : Nat) (n : Int) (x : Value) (i : Int) (ps qs : List (List Int)) : Tell.stable (SgB b n x i ps qs) := fun _ _ _ k ⟨ap, np, cp, aq, nq, cq, e, h⟩ => ⟨ap, np, cp, aq, nq, cq, e, h.kept (S := []) (by simp) k⟩
theorem grown_bsgb {o : Oper} {a : Act} {w : World} {b : Nat} {n i : Int} {ar : Option Addr} {mr cr : Nat} {ps qs : List (List Int)} (x0 x1 : Operand) (ho : o.op = .build 72 #[(0, x0), (1, x1)]) (h0 : a.eval x0 = .agg #[.int .i64 n, .slice ar mr cr]) (h1 : SigT b i ps qs (a.eval x1) w) :
    grown Tryz.prog w (SgB b n (.slice ar mr cr) i ps qs) ((execOp a.eval o).run Tryz.prog w) := by
  obtain ⟨ap, np, cp, aq, nq, cq, lp, lq, e, -⟩ := (SigA.v h1).shape
  refine grown_run (v := .agg #[.int .i64 n, .slice ar mr cr, .int .i64 i, .slice ap np cp, .slice aq nq cq]) ?_ (Kp.refl _ _) ⟨ap, np, cp, aq, nq, cq, rfl, by rw [← e]; exact h1⟩
  obtain ⟨ρ, hρ, _⟩ := eval_is a
  rw [hρ] at e h0 ⊢
  unfold execOp
  simp only [ho]
  simp [go_sem, e, h0]

theorem noBy_sgd {w : World} {g : Nat} {n i : Int} {a1 a2 a3 : Option Addr} {n1 c1 n2 c2 n3 c3 : Nat} {t : TypeId} {fr : Nat × Nat} (hg : w.heap[g]? = some (.cells #[.int .i64 n, .slice a1 n1 c1, .int .i64 i, .slice a2 n2 c2, .slice a3 n3 c3] t fr)) : NoBy w [g] := by
  intro x hx
  obtain rfl : x = g := by simpa using hx
  refine ⟨_, _, _, hg, fun x hx y => ?_⟩
  rcases (by simpa using hx : x = .int .i64 n ∨ x = .slice a1 n1 c1 ∨ x = .int .i64 i ∨ x = .slice a2 n2 c2 ∨ x = .slice a3 n3 c3) with rfl | rfl | rfl | rfl | rfl <;> simp
/-- which one signed tells. -/
def sgdX (n index size root : Int) : Sg := sgnC (seedX n) (wiP index 0 15).toNat (wiP size 0 256) (hashX root)
theorem sgdX_c (n index size root : Int) : rgtC (sgdX n index size root).n (sgdX n index size root).r = true := by
  have h := wiP_ge size 0 256 (by omega)
  exact (rgtC_iff _ _).2 ⟨h, hashX_len _⟩
theorem sgdX_i (index : Int) : (wiP index 0 15).toNat < 16 := by have h := wiP_ge index 0 15 (by omega); omega
theorem sgdX_rgt (n index size root : Int) : (sgdX n index size root).rgt = true := sgnC_rgt _ _ (sgdX_i index) _ _ (sgdX_c n index size root)
theorem sgdX_ver (n index size root : Int) : (sgdX n index size root).ver (topP (seedX n)) = true := sgnC_ver _ _ (sgdX_i index) _ _ (sgdX_c n index size root)

end Go.Proofs.YtillhpgdlmeajaaGreatDoor
