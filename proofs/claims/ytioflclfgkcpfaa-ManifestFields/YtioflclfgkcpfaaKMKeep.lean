/-
  The contracts of the law package's helpers Hash and Manifest.
-/
import Derived.Test.YtioflclfgkcpfaaKLMan
import Derived.Test.YtioflclfgkcpfaaKLWi
import Derived.Test.YtioflclfgkcpfaaKLLs
import Derived.Test.YtioflclfgkcpfaaKHAux
namespace Go.Proofs.Ytioflclfgkcpfaa
open Go.RowKit
open Go.Proofs

def nm0 : ByteArray := ⟨#[112, 117, 109, 112]⟩
def nm1 : ByteArray := ⟨#[118, 97, 108, 118, 101]⟩
def nm2 : ByteArray := ⟨#[97]⟩
def nm3 : ByteArray := ⟨#[103, 97, 117, 103, 101, 111, 102, 116, 104, 101, 108, 111, 110, 103, 101, 115, 116, 110, 97, 109]⟩
/-- one of the names. -/
def nmK (k : Nat) : ByteArray := if k = 0 then nm0 else if k = 1 then nm1 else if k = 2 then nm2 else nm3
def hashK (n : Int) : List Int := sha [98, wiP n 0 100000 % 256]
def mkM (a v f : Int) : Mf := ⟨nmK (wiP a 0 1000 % 4).toNat, 1 + wiP v 0 100000 % 9, hashK (f.tmod 4), [f % 256]⟩
theorem hashK_len (n : Int) : (hashK n).length = 32 := sha_len _
theorem hashK_bs (n : Int) : Bs (hashK n) := sha_bs _
theorem nm_name (k : Nat) : nameP (nums (nmK k)) = true := by
  unfold nmK
  split
  · decide +kernel
  · split
    · decide +kernel
    · split <;> decide +kernel
theorem nmK_size (k : Nat) : 1 ≤ (nmK k).size ∧ (nmK k).size ≤ 20 := by have := nameP_len (nm_name k); rwa [nums_len] at this
theorem mkM_ver (a v f : Int) : 1 ≤ (mkM a v f).v ∧ (mkM a v f).v ≤ 9 := by
  have h := wiP_ge v 0 100000 (by omega)
  show 1 ≤ 1 + wiP v 0 100000 % 9 ∧ 1 + wiP v 0 100000 % 9 ≤ 9
  omega
theorem mkM_ok (a v f : Int) : (mkM a v f).ok := by
  have h := mkM_ver a v f
  refine ⟨by omega, by omega, hashK_bs _, fun b hb => ?_⟩
  have : b = f % 256 := by simpa [mkM] using hb
  omega
theorem mkM_rgt (a v f : Int) : rgtM (mkM a v f) = true :=
  (rgtM_iff _).2 ⟨nm_name _, by have := mkM_ver a v f; omega, hashK_len _, by show [f % 256].length ≤ 64; simp⟩
theorem mkM_size (a v f : Int) : (mkM a v f).s.size ≤ 20 := (nmK_size _).2
theorem wrap_u8 (f : Int) : IntKind.u8.wrap f = f % 256 := by simp [IntKind.wrap, IntKind.signed, IntKind.bits]
theorem wrap_u32 {x : Int} (h0 : 0 ≤ x) (h1 : x ≤ 4294967295) : IntKind.u32.wrap x = x := by simp [IntKind.wrap, IntKind.signed, IntKind.bits]; omega

set_option maxRecDepth 100000 in
set_option maxHeartbeats 1000000 in
theorem khash_any (n : Int) (w : World) :
    Calls Try.prog 18 #[.int .i64 n] w fun e w' => ∃ ao m c, e = .returned (.slice ao m c) ∧ Row w' w.heap.size (.slice ao m c) (hashK n) ∧ Kp [] w w' := by
  have HW := hide (within_wi n 0 100000 w (by omega) (by omega) (by omega))
  obtain ⟨x, hx⟩ : ∃ x, x = wiP n 0 100000 := ⟨_, rfl⟩
  have hu := wrap_u8 x
  rw [← hx] at HW
  have HX := hide hx
  clear hx
  go_enter Try.func18, Try.ntmps18
  go_wp2_with fail
  refine (unhide HW).mono ?_
  rintro ee w1 ⟨rfl, hw⟩
  subst w1
  clear HW
  go_wp2_with fail
  obtain ⟨ob, hob⟩ : ∃ o : Obj, o = (.cells #[.int .u8 (x % 256)] 5) := ⟨_, rfl⟩
  have hP : Sl (w.alloc ob) (.slice (some ⟨w.heap.size, 0, none⟩) 1 1) [x % 256] := by
    rw [hob]; exact Sl.block (cs := [x % 256]) (t := 5) (fr := (0, 0)) (heap_alloc_new w _) (by simp [maxLen])
  have hPB : Bs [x % 256] := by
    intro b hb
    obtain rfl : b = x % 256 := by simpa using hb
    omega
  have Ka := (Kp.refl [] w).alloc ob
  have HL := lists1 hP hPB
  rw [show (w.alloc ob).heap.size = w.heap.size + 1 by simp] at HL
  have HK := hide (Ka.alloc (.cells #[.slice (some ⟨w.heap.size, 0, none⟩) 1 1] 23))
  rw [← hob]
  refine (reftagged_any 98 _ _ _ rfl _ HL (by omega) (by omega) (by simp) (by simp)).mono ?_
  rintro ee w2 ⟨ao2, m2, c2, rfl, R2, K2⟩
  have hr : sha (98 :: cat [(Value.slice (some ⟨w.heap.size, 0, none⟩) 1 1, [x % 256])]) = hashK n := by unfold hashK; rw [← unhide HX]; rfl
  rw [hr] at R2
  have HR2 := hide (row_new R2 (unhide HK))
  have HK2 := hide ((unhide HK).trans K2)
  clear HL HK hob R2 K2 Ka hP hPB hr hu
  go_wp2_with fail
  go_ret
  exact ⟨ao2, m2, c2, rfl, unhide HR2, unhide HK2⟩

/-- The value is the list of the four names. -/
def Str4 : Tell := fun v w => ∃ g, v = .slice (some ⟨g, 0, none⟩) 4 4 ∧ ∀ j, j < 4 → w.cell? ⟨g, j, none⟩ = some (.string (nmK j))
theorem stable_str4 : Tell.stable Str4 := fun _ _ _ k ⟨g, e, h⟩ => ⟨g, e, fun j hj => k.cell (h j hj) (by simp)⟩
/-- The value points to this string. -/
def PtS (S : ByteArray) : Tell := fun v w => ∃ g j, v = .pointer (some ⟨g, j, none⟩) ∧ w.cell? ⟨g, j, none⟩ = some (.string S)
theorem stable_pts (S : ByteArray) : Tell.stable (PtS S) := fun _ _ _ k ⟨g, j, e, h⟩ => ⟨g, j, e, k.cell h (by simp)⟩
section
variable {o : Oper} {a : Act} {w : World}
theorem grown_nm3 (ho : o.op = .slice 9 (.const (.string ⟨#[103, 97, 117, 103, 101, 111, 102, 116, 104, 101, 108, 111, 110, 103, 101, 115, 116, 110, 97, 109, 101]⟩)) none (some (.const (.int .i64 20))) none) : grown Try.prog w (Is (.string nm3)) ((execOp a.eval o).run Try.prog w) := by
  refine grown_run (v := .string nm3) ?_ (Kp.refl _ _) rfl
  obtain ⟨ρ, hρ, hc, _⟩ := eval_is a
  rw [hρ]
  unfold execOp
  simp only [ho]
  simp [go_sem, hc]
  decide +kernel
theorem grown_str4 (x : Operand) (ho : o.op = .buildSlice 42 4 #[(0, .const (.string nm0)), (1, .const (.string nm1)), (2, .const (.string nm2)), (3, x)]) (h : a.eval x = .string nm3) : grown Try.prog w Str4 ((execOp a.eval o).run Try.prog w) := by
  have G := heap_alloc_new w (.cells #[.string nm0, .string nm1, .string nm2, .string nm3] 9)
  refine grown_run (v := .slice (some ⟨w.heap.size, 0, none⟩) 4 4) (w' := w.alloc (.cells #[.string nm0, .string nm1, .string nm2, .string nm3] 9)) ?_ ((Kp.refl _ _).alloc _) ⟨_, rfl, fun j hj => ?_⟩
  · obtain ⟨ρ, hρ, hc, _⟩ := eval_is a
    rw [hρ] at h ⊢
    unfold execOp
    simp only [ho]
    simp [go_sem, hc, h]
  · rw [cell_of_row _ _ j _ _ _ G]
    rcases (by omega : j = 0 ∨ j = 1 ∨ j = 2 ∨ j = 3) with rfl | rfl | rfl | rfl <;> rfl
theorem grown_pts (s i : Operand) (k : Nat) (hk : k < 4) (ho : o.op = .indexAddr 42 s i) (h : Str4 (a.eval s) w) (hi : a.eval i = .int .i64 (k : Nat)) : grown Try.prog w (PtS (nmK k)) ((execOp a.eval o).run Try.prog w) := by
  obtain ⟨g, e, hc⟩ := h
  have hi2 : (k : Int) < 4 := by omega
  refine grown_run (v := .pointer (some ⟨g, k, none⟩)) ?_ (Kp.refl _ _) ⟨g, k, rfl, hc k hk⟩
  obtain ⟨ρ, hρ, _⟩ := eval_is a
  rw [hρ] at e hi ⊢
  unfold execOp
  simp only [ho]
  simp [go_sem, e, hi, hi2]
theorem grown_ldS (p : Operand) (S : ByteArray) (ho : o.op = .load 9 p) (h : PtS S (a.eval p) w) : grown Try.prog w (Is (.string S)) ((execOp a.eval o).run Try.prog w) := by
  obtain ⟨g, j, e, hc⟩ := h
  exact grown_lds p ho j S e hc
theorem grown_byte1 (x : Operand) (b : Int) (ho : o.op = .buildSlice 23 1 #[(0, x)]) (h : a.eval x = .int .u8 b) : grown Try.prog w (SlT [b]) ((execOp a.eval o).run Try.prog w) := by
  refine grown_run (v := .slice (some ⟨w.heap.size, 0, none⟩) 1 1) (w' := w.alloc (.cells #[.int .u8 b] 5)) ?_ ((Kp.refl _ _).alloc _) (Sl.block (cs := [b]) (t := 5) (fr := (0, 0)) (heap_alloc_new w _) (by simp [maxLen]))
  obtain ⟨ρ, hρ, _⟩ := eval_is a
  rw [hρ] at h ⊢
  unfold execOp
  simp only [ho]
  simp [go_sem, h]
theorem grown_man (x0 x1 x2 x3 : Operand) (ho : o.op = .build 25 #[(0, x0), (1, x1), (2, x2), (3, x3)]) (m : Mf) (h0 : a.eval x0 = .string m.s) (h1 : a.eval x1 = .int .u32 m.v) (h2 : Sl w (a.eval x2) m.f) (h3 : Sl w (a.eval x3) m.n) (hok : m.ok) : grown Try.prog w (MvT m) ((execOp a.eval o).run Try.prog w) := by
  obtain ⟨a2, c2, e2, r2⟩ := h2
  obtain ⟨a3, c3, e3, r3⟩ := h3
  refine grown_run (v := .agg #[.string m.s, .int .u32 m.v, .slice a2 m.f.length c2, .slice a3 m.n.length c3]) ?_ (Kp.refl _ _) ⟨a2, _, c2, a3, _, c3, rfl, ⟨a2, c2, rfl, r2⟩, ⟨a3, c3, rfl, r3⟩, hok⟩
  obtain ⟨ρ, hρ, _⟩ := eval_is a
  rw [hρ] at h0 h1 e2 e3 ⊢
  unfold execOp
  simp only [ho]
  simp [go_sem, h0, h1, e2, e3]
end

set_option maxRecDepth 100000 in
set_option maxHeartbeats 2000000 in
theorem kman_any (ia v f : Int) (w : World) :
    Calls Try.prog 7 #[.int .i64 ia, .int .i64 v, .int .i64 f] w fun e w' => ∃ x, e = .returned x ∧ MV w' x (mkM ia v f) ∧ Kp [] w w' := by
  have ha := wiP_ge ia 0 1000 (by omega)
  have hv := wiP_ge v 0 100000 (by omega)
  obtain ⟨k, hk⟩ : ∃ k : Nat, k = (wiP ia 0 1000 % 4).toNat := ⟨_, rfl⟩
  obtain ⟨r, hr⟩ : ∃ r, r = wiP v 0 100000 % 9 := ⟨_, rfl⟩
  have HKR : Hid ((wiP ia 0 1000).tmod 4 = (k : Int)) := hide (by rw [Int.tmod_eq_emod_of_nonneg ha.1]; omega)
  have HRR : Hid ((wiP v 0 100000).tmod 9 = r) := hide (by rw [Int.tmod_eq_emod_of_nonneg hv.1]; omega)
  have HK4 : Hid (k < 4) := hide (by omega)
  have HR9 : Hid (0 ≤ r ∧ r < 9) := hide (by omega)
  have HNM : Hid ((mkM ia v f).s = nmK k) := hide (by rw [hk]; rfl)
  have HV : Hid (1 + r = (mkM ia v f).v) := hide (by rw [hr]; rfl)
  have HZ := hide ((Kp.refl [] w).alloc (.cells #[.string ⟨#[]⟩, .int .u32 0, .slice none 0 0, .slice none 0 0] 25))
  have G0 := heap_alloc_new w (.cells #[.string ⟨#[]⟩, .int .u32 0, .slice none 0 0, .slice none 0 0] 25)
  have HG0 := hide G0
  clear ha hv hk hr G0
  go_enter Try.func7, Try.ntmps7
  go_wp2_with fail
  obtain ⟨g0, hg0⟩ : ∃ g, g = w.heap.size := ⟨_, rfl⟩
  obtain ⟨w0, hw0⟩ : ∃ w0, w0 = w.alloc (.cells #[.string ⟨#[]⟩, .int .u32 0, .slice none 0 0, .slice none 0 0] 25) := ⟨_, rfl⟩
  rw [← hw0] at HZ HG0 ⊢
  rw [← hg0] at HG0 ⊢
  have HGW := hide hg0
  clear hg0 hw0
  refine region_grow_tail 19 Try.mixed [Is (.string nm3), Str4, Is (.int .i64 ia), Is (.int .i64 (wiP ia 0 1000)), Is (.int .i64 k), PtS (nmK k), Is (.string (nmK k)), Is (.int .i64 v), Is (.int .i64 (wiP v 0 100000)), Is (.int .i64 r), Is (.int .i64 (1 + r)), Is (.int .u32 (1 + r)), Is (.int .i64 f), Is (.int .i64 (f.tmod 4)), SlT (hashK (f.tmod 4)), Is (.int .i64 f), Is (.int .u8 (f % 256)), SlT ([f % 256]), MvT (mkM ia v f)] [[], [(7, some 0)], [(0, none)], [(9, some 2)], [(10, some 3)], [(8, some 1), (11, some 4)], [(12, some 5)], [(1, none)], [(14, some 7)], [(15, some 8)], [(16, some 9)], [(17, some 10)], [(2, none)], [(19, some 12)], [(20, some 13)], [(2, none)], [(22, some 15)], [(23, some 16)], [(13, some 6), (18, some 11), (21, some 14), (24, some 17)]] (by kernel_rfl) ?_ ?_ ?_
  all_goals try simp only [List.take_succ_cons, List.take_zero, List.drop_succ_cons, List.drop_zero]
  · simp only [List.mem_cons, List.not_mem_nil, or_false]
    intro R hR
    rcases hR with rfl | rfl | rfl | rfl | rfl | rfl | rfl | rfl | rfl | rfl | rfl | rfl | rfl | rfl | rfl | rfl | rfl | rfl | rfl <;> first | exact stable_is _ | exact stable_str4 | exact stable_pts _ | exact stable_sl _ | exact stable_mv _
  · refine steps_cons (fun a w hk hn => ?_) ?_
    · clear hn
      refine wants_plain rfl ?_
      exact grown_nm3 rfl
    refine steps_cons (fun a w hk hn => ?_) ?_
    · have h7 : a.eval (.tmp 7) = .string nm3 := hn.1
      clear hn
      refine wants_plain rfl ?_
      exact grown_str4 (.tmp 7) rfl h7
    refine steps_cons (fun a w hk hn => ?_) ?_
    · have h0 : a.eval (.tmp 0) = .int .i64 ia := hn.1
      clear hn
      refine wants_plain rfl ?_
      exact grown_move (.tmp 0) rfl h0
    refine steps_cons (fun a w hk hn => ?_) ?_
    · have h9 : a.eval (.tmp 9) = .int .i64 ia := hn.1
      clear hn
      refine wants_plain rfl ?_
      refine grown_call (f := 15) rfl Try.func15 (by kernel_rfl) (by kernel_rfl) ?_
      simp only [List.map_toArray, List.map_cons, List.map_nil, h9]
      refine (within_wi ia 0 1000 w (by omega) (by omega) (by omega)).mono ?_
      rintro e w' ⟨rfl, rfl⟩
      exact ⟨_, rfl, Kp.refl _ _, rfl⟩
    refine steps_cons (fun a w hk hn => ?_) ?_
    · have h10 : a.eval (.tmp 10) = .int .i64 (wiP ia 0 1000) := hn.1
      clear hn
      refine wants_plain rfl ?_
      refine grown_run (v := .int .i64 k) ?_ (Kp.refl _ _) rfl
      obtain ⟨ρ, hρ, hc, hf, hg⟩ := eval_is a
      rw [hρ] at h10 ⊢
      simp [go_sem, hc, h10]
      exact unhide HKR
    refine steps_cons (fun a w hk hn => ?_) ?_
    · have h8 : (Str4) (a.eval (.tmp 8)) w := hn.1
      have h11 : a.eval (.tmp 11) = .int .i64 k := hn.2.1
      clear hn
      refine wants_plain rfl ?_
      exact grown_pts (.tmp 8) (.tmp 11) k (unhide HK4) rfl h8 h11
    refine steps_cons (fun a w hk hn => ?_) ?_
    · have h12 : (PtS (nmK k)) (a.eval (.tmp 12)) w := hn.1
      clear hn
      refine wants_plain rfl ?_
      exact grown_ldS (.tmp 12) _ rfl h12
    refine steps_cons (fun a w hk hn => ?_) ?_
    · have h1 : a.eval (.tmp 1) = .int .i64 v := hn.1
      clear hn
      refine wants_plain rfl ?_
      exact grown_move (.tmp 1) rfl h1
    refine steps_cons (fun a w hk hn => ?_) ?_
    · have h14 : a.eval (.tmp 14) = .int .i64 v := hn.1
      clear hn
      refine wants_plain rfl ?_
      refine grown_call (f := 15) rfl Try.func15 (by kernel_rfl) (by kernel_rfl) ?_
      simp only [List.map_toArray, List.map_cons, List.map_nil, h14]
      refine (within_wi v 0 100000 w (by omega) (by omega) (by omega)).mono ?_
      rintro e w' ⟨rfl, rfl⟩
      exact ⟨_, rfl, Kp.refl _ _, rfl⟩
    refine steps_cons (fun a w hk hn => ?_) ?_
    · have h15 : a.eval (.tmp 15) = .int .i64 (wiP v 0 100000) := hn.1
      clear hn
      refine wants_plain rfl ?_
      refine grown_run (v := .int .i64 r) ?_ (Kp.refl _ _) rfl
      obtain ⟨ρ, hρ, hc, hf, hg⟩ := eval_is a
      rw [hρ] at h15 ⊢
      simp [go_sem, hc, h15]
      exact unhide HRR
    refine steps_cons (fun a w hk hn => ?_) ?_
    · have h16 : a.eval (.tmp 16) = .int .i64 r := hn.1
      clear hn
      refine wants_plain rfl ?_
      refine grown_run (v := .int .i64 (1 + r)) ?_ (Kp.refl _ _) rfl
      have hr9 := unhide HR9
      obtain ⟨ρ, hρ, hc, hf, hg⟩ := eval_is a
      rw [hρ] at h16 ⊢
      simp [go_sem, hc, h16]
      exact wrap_at rfl (by omega) (by omega)
    refine steps_cons (fun a w hk hn => ?_) ?_
    · have h17 : a.eval (.tmp 17) = .int .i64 (1 + r) := hn.1
      clear hn
      refine wants_plain rfl ?_
      refine grown_run (v := .int .u32 (1 + r)) ?_ (Kp.refl _ _) rfl
      have hr9 := unhide HR9
      obtain ⟨ρ, hρ, hc, hf, hg⟩ := eval_is a
      rw [hρ] at h17 ⊢
      simp [go_sem, h17]
      exact wrap_u32 (by omega) (by omega)
    refine steps_cons (fun a w hk hn => ?_) ?_
    · have h2 : a.eval (.tmp 2) = .int .i64 f := hn.1
      clear hn
      refine wants_plain rfl ?_
      exact grown_move (.tmp 2) rfl h2
    refine steps_cons (fun a w hk hn => ?_) ?_
    · have h19 : a.eval (.tmp 19) = .int .i64 f := hn.1
      clear hn
      refine wants_plain rfl ?_
      refine grown_run (v := .int .i64 (f.tmod 4)) ?_ (Kp.refl _ _) rfl
      obtain ⟨ρ, hρ, hc, hf, hg⟩ := eval_is a
      rw [hρ] at h19 ⊢
      simp [go_sem, hc, h19]
    refine steps_cons (fun a w hk hn => ?_) ?_
    · have h20 : a.eval (.tmp 20) = .int .i64 (f.tmod 4) := hn.1
      clear hn
      refine wants_plain rfl ?_
      refine grown_call (f := 18) rfl Try.func18 (by kernel_rfl) (by kernel_rfl) ?_
      simp only [List.map_toArray, List.map_cons, List.map_nil, h20]
      refine (khash_any (f.tmod 4) w).mono ?_
      rintro e w' ⟨ao, m, c, rfl, R, K⟩
      exact ⟨_, rfl, K, R.sl⟩
    refine steps_cons (fun a w hk hn => ?_) ?_
    · have h2 : a.eval (.tmp 2) = .int .i64 f := hn.1
      clear hn
      refine wants_plain rfl ?_
      exact grown_move (.tmp 2) rfl h2
    refine steps_cons (fun a w hk hn => ?_) ?_
    · have h22 : a.eval (.tmp 22) = .int .i64 f := hn.1
      clear hn
      refine wants_plain rfl ?_
      refine grown_run (v := .int .u8 (f % 256)) ?_ (Kp.refl _ _) rfl
      obtain ⟨ρ, hρ, hc, hf, hg⟩ := eval_is a
      rw [hρ] at h22 ⊢
      simp [go_sem, h22]
      exact wrap_u8 f
    refine steps_cons (fun a w hk hn => ?_) ?_
    · have h23 : a.eval (.tmp 23) = .int .u8 (f % 256) := hn.1
      clear hn
      refine wants_plain rfl ?_
      exact grown_byte1 (.tmp 23) _ rfl h23
    refine steps_cons (fun a w hk hn => ?_) ?_
    · have h13 : a.eval (.tmp 13) = .string (nmK k) := hn.1
      have h18 : a.eval (.tmp 18) = .int .u32 (1 + r) := hn.2.1
      have h21 : Sl w (a.eval (.tmp 21)) (hashK (f.tmod 4)) := hn.2.2.1
      have h24 : Sl w (a.eval (.tmp 24)) ([f % 256]) := hn.2.2.2.1
      clear hn
      refine wants_plain rfl ?_
      exact grown_man (.tmp 13) (.tmp 18) (.tmp 21) (.tmp 24) rfl (mkM ia v f) (by rw [h13]; exact congrArg Value.string (unhide HNM).symm) (by rw [h18]; exact congrArg (fun t => Value.int .u32 t) (unhide HV)) h21 h24 (mkM_ok ia v f)
    exact trivial
  intro W1 hkW1
  rintro _ rfl
  intro v8 h8
  rintro _ rfl
  rintro _ rfl
  rintro _ rfl
  intro v12 h12
  rintro _ rfl
  rintro _ rfl
  rintro _ rfl
  rintro _ rfl
  rintro _ rfl
  rintro _ rfl
  rintro _ rfl
  rintro _ rfl
  intro v21 h21
  rintro _ rfl
  rintro _ rfl
  intro v24 h24
  intro v25 h25
  refine fin_nil ?_
  simp only [Act.put, List.set_cons_zero, List.set_cons_succ, List.setIfInBounds_toArray]
  have K1 := (kp_drew w0).trans hkW1
  have G1 := K1.heap (unhide HG0) (by simp)
  obtain ⟨af, nf, cf, an, nn, cn, e25, hF, hN, hok⟩ := h25
  subst e25
  go_wp2_with (refine wpList_store_man rfl (.tmp 6) (.tmp 25) rfl g0 rfl _ _ _ _ _ _ _ _ G1 rfl ⟨rfl, rfl, rfl, rfl⟩ ?_; intro wa Ga Ka)
  refine bodyPost_ret (results_man1 rfl _ rfl Ga) rfl ?_
  have N1 := noBy_man G1
  exact ⟨_, rfl, ⟨af, nf, cf, an, nn, cn, rfl, hF.offBy N1 Ka, hN.offBy N1 Ka, hok⟩, (((unhide HZ).trans K1)).then Ka (fun i hi => .inr (by have := unhide HGW; simp at hi; omega))⟩
end Go.Proofs.Ytioflclfgkcpfaa
