/-
  The statement TreeNumbersCardSaid: the law function TreeNumbers returns true; the table hash.roundWords starts as the program's text lays it (tied). No other condition.
-/
import Derived.Test.YtpiekmflfgpalaaDoorKTKnown
import Derived.Test.YtpiekmflfgpalaaDoorKTRef
import Derived.Test.YtpiekmflfgpalaaDoorTie
import Derived.Test.YtpiekmflfgpalaaDoorCards
import Derived.SevenTiedAt
namespace Go.Proofs.YtpiekmflfgpalaaDoor.treeNumbers
open Go.ChangeShapes Go.WideShapes Go.ChangeAt Go.RowKit
open Go.Proofs.YtpiekmflfgpalaaDoor
set_option linter.unusedVariables false

def nums : List Int := [-4611686018427387904, -1, 1048576, 1048577, 1099511627776, 4611686018427387905]
theorem nums_in (i : Nat) : -9223372036854775808 ≤ nums.getD i 0 ∧ nums.getD i 0 ≤ 9223372036854775807 := by
  rcases Nat.lt_or_ge i 6 with h | h
  · rcases (by omega : i = 0 ∨ i = 1 ∨ i = 2 ∨ i = 3 ∨ i = 4 ∨ i = 5) with rfl | rfl | rfl | rfl | rfl | rfl <;> decide
  · have e : nums.getD i 0 = 0 := by rw [List.getD_eq_getElem?_getD, List.getElem?_eq_none (by exact h)]; rfl
    rw [e]; omega

set_option maxRecDepth 100000 in
set_option maxHeartbeats 1500000 in
theorem walk (w : World) (hG : Gl w) :
    Calls Tryd.prog 3 #[] w fun e w' => e = .returned (.bool true) ∧ Below w.heap.size w w' := by
  have HG := hide hG
  clear hG
  go_enter Tryd.func3, Tryd.ntmps3
  go_wp2_with fail
  go_loopw [1] (fun i wr => ∃ k : Nat, k ≤ 70 ∧ i = .int .i64 k ∧ Kp [] w wr) (fun i _ => 70 - (intOf i).toNat)
  case atStart => exact ⟨0, by omega, rfl, Kp.refl _ _⟩
  case round =>
    obtain ⟨N, hN, rfl, Kr⟩ := hrel
    have HKr := hide Kr
    clear Kr
    by_cases hlt : N < 70
    · have hlt2 : (N : Int) < 70 := by omega
      have HC := hide (kleaves_any N wr (by omega))
      go_wp2_with fail
      refine (unhide HC).mono ?_
      rintro ee w1 ⟨a1, m1, c1, rfl, A1⟩
      have K1 := A1.kp
      obtain ⟨ls, hls⟩ : ∃ x, x = kleavesP N := ⟨_, rfl⟩
      have L1 : LcM ls (.slice a1 m1 c1) w1 := by rw [hls]; exact A1.lc (by rw [kleavesP_len]; omega)
      have hlen : ls.length = N := by rw [hls, kleavesP_len]
      have hm1 : m1 = N := by obtain ⟨_, _, e, _⟩ := L1.shape; injection e with _ e; rw [e, hlen]
      subst hm1
      have HM : Hid (∀ x ∈ ls, x.length ≤ 1000) := by rw [hls]; exact kleavesP_le _
      have HLE := hide hlen
      obtain ⟨rl, hrl⟩ : ∃ r, r = trootP ls := ⟨_, rfl⟩
      have HRL := hide hrl
      obtain ⟨TL, hTL⟩ : ∃ S, S = strOfNums rl := ⟨_, rfl⟩
      have HTL := hide hTL
      obtain ⟨ks, hks⟩ : ∃ k, k = tsplP m1 := ⟨_, rfl⟩
      have HKS : Hid (ks = tsplP (m1 : Int).toNat) := hide (by rw [Int.toNat_natCast]; exact hks)
      obtain ⟨p, hp⟩ : ∃ p, p = m1 / 3 := ⟨_, rfl⟩
      obtain ⟨q, hq⟩ : ∃ q, q = m1 / 2 := ⟨_, rfl⟩
      have hpq : p ≤ q := by omega
      have hqm : q ≤ m1 := by omega
      have HQN : Hid (q ≤ ls.length) := hide (by rw [hlen]; exact hqm)
      have hd3 : (m1 : Int).tdiv 3 = (p : Int) := by rw [hp, Int.tdiv_eq_ediv_of_nonneg (by omega)]; omega
      have hd2 : (m1 : Int).tdiv 2 = (q : Int) := by rw [hq, Int.tdiv_eq_ediv_of_nonneg (by omega)]; omega
      have hw3 : IntKind.i64.wrap (p : Int) = (p : Int) := wrap_at rfl (by omega) (by omega)
      have hw2 : IntKind.i64.wrap (q : Int) = (q : Int) := wrap_at rfl (by omega) (by omega)
      obtain ⟨rx, hrx⟩ : ∃ r, r = trootP ((ls.drop p).take (q - p)) := ⟨_, rfl⟩
      have HRX := hide hrx
      obtain ⟨TX, hTX⟩ : ∃ S, S = strOfNums rx := ⟨_, rfl⟩
      have HTX := hide hTX
      have HXN : Hid (((ls.drop p).take (q - p)).length = q - p) := hide (by have := unhide HQN; simp; omega)
      have HXM : Hid (∀ x ∈ (ls.drop p).take (q - p), x.length ≤ 1000) := hide (fun x hx => unhide HM x (List.mem_of_mem_drop (List.mem_of_mem_take hx)))
      have HLL : Hid (∀ w', Kp [] w1.drew w' → LcM ls (.slice a1 m1 c1) w') := fun w' k' => L1.kept ((kp_drew w1).trans k')
      have HGL : Hid (∀ w', Kp [] w1.drew w' → Gl w') := fun w' k' => (unhide HG).kept ((unhide HKr).trans (K1.trans ((kp_drew w1).trans k'))) (by simp)
      have HK1 := hide ((unhide HKr).trans K1)
      clear A1 K1 L1 hls hlen HC hrl hTL hks hp hq hrx hTX
      go_wp2_with fail
      refine region_grow Tryd.mixed [Is (.slice a1 m1 c1), SlT (rl), Is (.string TL), Is (.slice a1 m1 c1), SlT (rl), Is (.string TL), Is (.bool false), Is (.bool false), Is (.int .i64 m1), Is (.int .i64 ks), Is (.int .i64 m1), Is (.int .i64 ks), Is (.bool false), Is (.bool false), Is (.bool false), Is (.slice a1 m1 c1), Is (.int .i64 m1), Is (.int .i64 p), Is (.int .i64 m1), Is (.int .i64 q), SlT (rx), Is (.string TX), Is (.slice a1 m1 c1), Is (.int .i64 m1), Is (.int .i64 p), Is (.int .i64 m1), Is (.int .i64 q), LcM (((ls).drop p).take (q - p)), SlT (rx), Is (.string TX), Is (.bool false), Is (.bool false)] [[(2, none)], [(12, some 0)], [(13, some 1)], [(2, none)], [(15, some 3)], [(16, some 4)], [(14, some 2), (17, some 5)], [(18, some 6)], [(1, none), (19, some 7)], [(20, some 8), (19, some 7)], [(1, none), (19, some 7)], [(22, some 10), (19, some 7)], [(21, some 9), (23, some 11), (19, some 7)], [(19, some 7), (24, some 12)], [(25, some 13)], [(2, none), (26, some 14)], [(1, none), (26, some 14)], [(28, some 16), (26, some 14)], [(1, none), (26, some 14)], [(30, some 18), (26, some 14)], [(27, some 15), (29, some 17), (31, some 19), (26, some 14)], [(32, some 20), (26, some 14)], [(2, none), (26, some 14)], [(1, none), (26, some 14)], [(35, some 23), (26, some 14)], [(1, none), (26, some 14)], [(37, some 25), (26, some 14)], [(34, some 22), (36, some 24), (38, some 26), (26, some 14)], [(39, some 27), (26, some 14)], [(40, some 28), (26, some 14)], [(33, some 21), (41, some 29), (26, some 14)], [(26, some 14), (42, some 30)]] (by kernel_rfl) ?_ ?_ ?_
      · simp only [List.mem_cons, List.not_mem_nil, or_false]
        intro R hR
        rcases hR with rfl | rfl | rfl | rfl | rfl | rfl | rfl | rfl | rfl | rfl | rfl | rfl | rfl | rfl | rfl | rfl | rfl | rfl | rfl | rfl | rfl | rfl | rfl | rfl | rfl | rfl | rfl | rfl | rfl | rfl | rfl | rfl <;> first | exact stable_is _ | exact stable_sl _ | exact stable_lcm _
      · refine steps_cons (fun a w hk hn => ?_) ?_
        · have h2 : a.eval (.tmp 2) = .slice a1 m1 c1 := hn.1
          clear hn
          refine wants_plain rfl ?_
          exact grown_move (.tmp 2) rfl h2
        refine steps_cons (fun a w hk hn => ?_) ?_
        · have h12 : a.eval (.tmp 12) = .slice a1 m1 c1 := hn.1
          clear hn
          refine wants_plain rfl ?_
          refine grown_call (f := 10) rfl Tryd.func10 (by kernel_rfl) (by kernel_rfl) ?_
          simp only [List.map_toArray, List.map_cons, List.map_nil, h12]
          refine (troot_any m1 _ ls rl w (unhide HRL) (unhide HLE) (by omega) (unhide HLL w hk) (unhide HM) (unhide HGL w hk)).mono ?_
          rintro e w' ⟨ao, m, c, rfl, R, K⟩
          exact ⟨_, rfl, K, R.sl⟩
        refine steps_cons (fun a w hk hn => ?_) ?_
        · have h13 : Sl w (a.eval (.tmp 13)) (rl) := hn.1
          clear hn
          refine wants_plain rfl ?_
          exact grown_conv (.tmp 13) _ _ 5 _ rfl h13 Tryd.underlying24 Tryd.underlying5 Tryd.underlying9 (congrArg Value.string (unhide HTL).symm)
        refine steps_cons (fun a w hk hn => ?_) ?_
        · have h2 : a.eval (.tmp 2) = .slice a1 m1 c1 := hn.1
          clear hn
          refine wants_plain rfl ?_
          exact grown_move (.tmp 2) rfl h2
        refine steps_cons (fun a w hk hn => ?_) ?_
        · have h15 : a.eval (.tmp 15) = .slice a1 m1 c1 := hn.1
          clear hn
          refine wants_plain rfl ?_
          refine grown_call (f := 11) rfl Tryd.func11 (by kernel_rfl) (by kernel_rfl) ?_
          simp only [List.map_toArray, List.map_cons, List.map_nil, h15]
          refine (rroot_any m1 _ ls rl w (unhide HRL) (unhide HLE) (by omega) (unhide HLL w hk) (unhide HM)).mono ?_
          rintro e w' ⟨ao, m, c, rfl, R, K⟩
          exact ⟨_, rfl, K, R⟩
        refine steps_cons (fun a w hk hn => ?_) ?_
        · have h16 : Sl w (a.eval (.tmp 16)) (rl) := hn.1
          clear hn
          refine wants_plain rfl ?_
          exact grown_conv (.tmp 16) _ _ 5 _ rfl h16 Tryd.underlying24 Tryd.underlying5 Tryd.underlying9 (congrArg Value.string (unhide HTL).symm)
        refine steps_cons (fun a w hk hn => ?_) ?_
        · have h14 : a.eval (.tmp 14) = .string TL := hn.1
          have h17 : a.eval (.tmp 17) = .string TL := hn.2.1
          clear hn
          refine wants_plain rfl ?_
          refine grown_run (v := .bool false) ?_ (Kp.refl _ _) rfl
          obtain ⟨ρ, hρ, hc, hf, hg⟩ := eval_is a
          rw [hρ] at h14 h17 ⊢
          simp [go_sem, h14, h17]
        refine steps_cons (fun a w hk hn => ?_) ?_
        · have h18 : a.eval (.tmp 18) = .bool false := hn.1
          clear hn
          refine wants_plain rfl ?_
          exact grown_move (.tmp 18) rfl h18
        refine steps_cons (fun a w hk hn => ?_) ?_
        · have h1 : a.eval (.tmp 1) = .int .i64 m1 := hn.1
          have h19 : a.eval (.tmp 19) = .bool false := hn.2.1
          clear hn
          refine wants_guard (d := 19) rfl rfl h19 ?_
          exact grown_move (.tmp 1) rfl h1
        refine steps_cons (fun a w hk hn => ?_) ?_
        · have h20 : a.eval (.tmp 20) = .int .i64 m1 := hn.1
          have h19 : a.eval (.tmp 19) = .bool false := hn.2.1
          clear hn
          refine wants_guard (d := 19) rfl rfl h19 ?_
          refine grown_call (f := 12) rfl Tryd.func12 (by kernel_rfl) (by kernel_rfl) ?_
          simp only [List.map_toArray, List.map_cons, List.map_nil, h20]
          refine (tsplit_any m1 ks w (unhide HKS) (by omega)).mono ?_
          rintro e w' ⟨rfl, rfl⟩
          exact ⟨_, rfl, Kp.refl _ _, rfl⟩
        refine steps_cons (fun a w hk hn => ?_) ?_
        · have h1 : a.eval (.tmp 1) = .int .i64 m1 := hn.1
          have h19 : a.eval (.tmp 19) = .bool false := hn.2.1
          clear hn
          refine wants_guard (d := 19) rfl rfl h19 ?_
          exact grown_move (.tmp 1) rfl h1
        refine steps_cons (fun a w hk hn => ?_) ?_
        · have h22 : a.eval (.tmp 22) = .int .i64 m1 := hn.1
          have h19 : a.eval (.tmp 19) = .bool false := hn.2.1
          clear hn
          refine wants_guard (d := 19) rfl rfl h19 ?_
          refine grown_call (f := 13) rfl Tryd.func13 (by kernel_rfl) (by kernel_rfl) ?_
          simp only [List.map_toArray, List.map_cons, List.map_nil, h22]
          refine (rsplit_any m1 ks w (unhide HKS) (by omega)).mono ?_
          rintro e w' ⟨rfl, rfl⟩
          exact ⟨_, rfl, Kp.refl _ _, rfl⟩
        refine steps_cons (fun a w hk hn => ?_) ?_
        · have h21 : a.eval (.tmp 21) = .int .i64 ks := hn.1
          have h23 : a.eval (.tmp 23) = .int .i64 ks := hn.2.1
          have h19 : a.eval (.tmp 19) = .bool false := hn.2.2.1
          clear hn
          refine wants_guard (d := 19) rfl rfl h19 ?_
          refine grown_run (v := .bool false) ?_ (Kp.refl _ _) rfl
          obtain ⟨ρ, hρ, hc, hf, hg⟩ := eval_is a
          rw [hρ] at h21 h23 ⊢
          simp [go_sem, h21, h23]
        refine steps_cons (fun a w hk hn => ?_) ?_
        · have h19 : a.eval (.tmp 19) = .bool false := hn.1
          have h24 : a.eval (.tmp 24) = .bool false := hn.2.1
          clear hn
          refine wants_plain rfl ?_
          exact grown_pick _ _ _ false rfl h19 h24
        refine steps_cons (fun a w hk hn => ?_) ?_
        · have h25 : a.eval (.tmp 25) = .bool false := hn.1
          clear hn
          refine wants_plain rfl ?_
          exact grown_move (.tmp 25) rfl h25
        refine steps_cons (fun a w hk hn => ?_) ?_
        · have h2 : a.eval (.tmp 2) = .slice a1 m1 c1 := hn.1
          have h26 : a.eval (.tmp 26) = .bool false := hn.2.1
          clear hn
          refine wants_guard (d := 26) rfl rfl h26 ?_
          exact grown_move (.tmp 2) rfl h2
        refine steps_cons (fun a w hk hn => ?_) ?_
        · have h1 : a.eval (.tmp 1) = .int .i64 m1 := hn.1
          have h26 : a.eval (.tmp 26) = .bool false := hn.2.1
          clear hn
          refine wants_guard (d := 26) rfl rfl h26 ?_
          exact grown_move (.tmp 1) rfl h1
        refine steps_cons (fun a w hk hn => ?_) ?_
        · have h28 : a.eval (.tmp 28) = .int .i64 m1 := hn.1
          have h26 : a.eval (.tmp 26) = .bool false := hn.2.1
          clear hn
          refine wants_guard (d := 26) rfl rfl h26 ?_
          refine grown_run (v := .int .i64 p) ?_ (Kp.refl _ _) rfl
          obtain ⟨ρ, hρ, hc, hf, hg⟩ := eval_is a
          rw [hρ] at h28 ⊢
          simp [go_sem, hc, h28, hd3, hw3]
        refine steps_cons (fun a w hk hn => ?_) ?_
        · have h1 : a.eval (.tmp 1) = .int .i64 m1 := hn.1
          have h26 : a.eval (.tmp 26) = .bool false := hn.2.1
          clear hn
          refine wants_guard (d := 26) rfl rfl h26 ?_
          exact grown_move (.tmp 1) rfl h1
        refine steps_cons (fun a w hk hn => ?_) ?_
        · have h30 : a.eval (.tmp 30) = .int .i64 m1 := hn.1
          have h26 : a.eval (.tmp 26) = .bool false := hn.2.1
          clear hn
          refine wants_guard (d := 26) rfl rfl h26 ?_
          refine grown_run (v := .int .i64 q) ?_ (Kp.refl _ _) rfl
          obtain ⟨ρ, hρ, hc, hf, hg⟩ := eval_is a
          rw [hρ] at h30 ⊢
          simp [go_sem, hc, h30, hd2, hw2]
        refine steps_cons (fun a w hk hn => ?_) ?_
        · have h27 : a.eval (.tmp 27) = .slice a1 m1 c1 := hn.1
          have h29 : a.eval (.tmp 29) = .int .i64 p := hn.2.1
          have h31 : a.eval (.tmp 31) = .int .i64 q := hn.2.2.1
          have h26 : a.eval (.tmp 26) = .bool false := hn.2.2.2.1
          clear hn
          refine wants_guard (d := 26) rfl rfl h26 ?_
          refine grown_call (f := 14) rfl Tryd.func14 (by kernel_rfl) (by kernel_rfl) ?_
          simp only [List.map_toArray, List.map_cons, List.map_nil, h27, h29, h31]
          refine (trange_ok _ ls p q rx w (unhide HRX) (by omega) (unhide HQN) (by rw [unhide HLE]; omega) (unhide HLL w hk) (unhide HM) (unhide HGL w hk)).mono ?_
          rintro e w' ⟨ao, m, c, rfl, R, K⟩
          exact ⟨_, rfl, K, R.sl⟩
        refine steps_cons (fun a w hk hn => ?_) ?_
        · have h32 : Sl w (a.eval (.tmp 32)) (rx) := hn.1
          have h26 : a.eval (.tmp 26) = .bool false := hn.2.1
          clear hn
          refine wants_guard (d := 26) rfl rfl h26 ?_
          exact grown_conv (.tmp 32) _ _ 5 _ rfl h32 Tryd.underlying24 Tryd.underlying5 Tryd.underlying9 (congrArg Value.string (unhide HTX).symm)
        refine steps_cons (fun a w hk hn => ?_) ?_
        · have h2 : a.eval (.tmp 2) = .slice a1 m1 c1 := hn.1
          have h26 : a.eval (.tmp 26) = .bool false := hn.2.1
          clear hn
          refine wants_guard (d := 26) rfl rfl h26 ?_
          exact grown_move (.tmp 2) rfl h2
        refine steps_cons (fun a w hk hn => ?_) ?_
        · have h1 : a.eval (.tmp 1) = .int .i64 m1 := hn.1
          have h26 : a.eval (.tmp 26) = .bool false := hn.2.1
          clear hn
          refine wants_guard (d := 26) rfl rfl h26 ?_
          exact grown_move (.tmp 1) rfl h1
        refine steps_cons (fun a w hk hn => ?_) ?_
        · have h35 : a.eval (.tmp 35) = .int .i64 m1 := hn.1
          have h26 : a.eval (.tmp 26) = .bool false := hn.2.1
          clear hn
          refine wants_guard (d := 26) rfl rfl h26 ?_
          refine grown_run (v := .int .i64 p) ?_ (Kp.refl _ _) rfl
          obtain ⟨ρ, hρ, hc, hf, hg⟩ := eval_is a
          rw [hρ] at h35 ⊢
          simp [go_sem, hc, h35, hd3, hw3]
        refine steps_cons (fun a w hk hn => ?_) ?_
        · have h1 : a.eval (.tmp 1) = .int .i64 m1 := hn.1
          have h26 : a.eval (.tmp 26) = .bool false := hn.2.1
          clear hn
          refine wants_guard (d := 26) rfl rfl h26 ?_
          exact grown_move (.tmp 1) rfl h1
        refine steps_cons (fun a w hk hn => ?_) ?_
        · have h37 : a.eval (.tmp 37) = .int .i64 m1 := hn.1
          have h26 : a.eval (.tmp 26) = .bool false := hn.2.1
          clear hn
          refine wants_guard (d := 26) rfl rfl h26 ?_
          refine grown_run (v := .int .i64 q) ?_ (Kp.refl _ _) rfl
          obtain ⟨ρ, hρ, hc, hf, hg⟩ := eval_is a
          rw [hρ] at h37 ⊢
          simp [go_sem, hc, h37, hd2, hw2]
        refine steps_cons (fun a w hk hn => ?_) ?_
        · have h34 : a.eval (.tmp 34) = .slice a1 m1 c1 := hn.1
          have h36 : a.eval (.tmp 36) = .int .i64 p := hn.2.1
          have h38 : a.eval (.tmp 38) = .int .i64 q := hn.2.2.1
          have h26 : a.eval (.tmp 26) = .bool false := hn.2.2.2.1
          clear hn
          refine wants_guard (d := 26) rfl rfl h26 ?_
          exact grown_lspan (.tmp 34) (.tmp 36) (.tmp 38) (ls) p q rfl (by rw [h34]; exact unhide HLL w hk) h36 h38 (by omega) (unhide HQN)
        refine steps_cons (fun a w hk hn => ?_) ?_
        · have h39 : (LcM (((ls).drop p).take (q - p))) (a.eval (.tmp 39)) w := hn.1
          have h26 : a.eval (.tmp 26) = .bool false := hn.2.1
          clear hn
          refine wants_guard (d := 26) rfl rfl h26 ?_
          refine grown_call (f := 11) rfl Tryd.func11 (by kernel_rfl) (by kernel_rfl) ?_
          simp only [List.map_toArray, List.map_cons, List.map_nil]
          refine (rroot_any (q - p) _ _ rx w (unhide HRX) (unhide HXN) (by omega) h39 (unhide HXM)).mono ?_
          rintro e w' ⟨ao, m, c, rfl, R, K⟩
          exact ⟨_, rfl, K, R⟩
        refine steps_cons (fun a w hk hn => ?_) ?_
        · have h40 : Sl w (a.eval (.tmp 40)) (rx) := hn.1
          have h26 : a.eval (.tmp 26) = .bool false := hn.2.1
          clear hn
          refine wants_guard (d := 26) rfl rfl h26 ?_
          exact grown_conv (.tmp 40) _ _ 5 _ rfl h40 Tryd.underlying24 Tryd.underlying5 Tryd.underlying9 (congrArg Value.string (unhide HTX).symm)
        refine steps_cons (fun a w hk hn => ?_) ?_
        · have h33 : a.eval (.tmp 33) = .string TX := hn.1
          have h41 : a.eval (.tmp 41) = .string TX := hn.2.1
          have h26 : a.eval (.tmp 26) = .bool false := hn.2.2.1
          clear hn
          refine wants_guard (d := 26) rfl rfl h26 ?_
          refine grown_run (v := .bool false) ?_ (Kp.refl _ _) rfl
          obtain ⟨ρ, hρ, hc, hf, hg⟩ := eval_is a
          rw [hρ] at h33 h41 ⊢
          simp [go_sem, h33, h41]
        refine steps_cons (fun a w hk hn => ?_) ?_
        · have h26 : a.eval (.tmp 26) = .bool false := hn.1
          have h42 : a.eval (.tmp 42) = .bool false := hn.2.1
          clear hn
          refine wants_plain rfl ?_
          exact grown_pick _ _ _ false rfl h26 h42
        exact trivial
      intro W1 hkW1
      rintro _ rfl
      intro v13 h13
      rintro _ rfl
      rintro _ rfl
      intro v16 h16
      rintro _ rfl
      rintro _ rfl
      rintro _ rfl
      rintro _ rfl
      rintro _ rfl
      rintro _ rfl
      rintro _ rfl
      rintro _ rfl
      rintro _ rfl
      rintro _ rfl
      rintro _ rfl
      rintro _ rfl
      rintro _ rfl
      rintro _ rfl
      rintro _ rfl
      intro v32 h32
      rintro _ rfl
      rintro _ rfl
      rintro _ rfl
      rintro _ rfl
      rintro _ rfl
      rintro _ rfl
      intro v39 h39
      intro v40 h40
      rintro _ rfl
      rintro _ rfl
      rintro _ rfl
      refine fin_nil ?_
      simp only [Act.put, List.set_cons_zero, List.set_cons_succ, List.setIfInBounds_toArray]
      have HKW : Hid (Kp [] w W1) := (unhide HK1).trans ((kp_drew w1).trans hkW1)
      clear hkW1 h13 h16 h32 h39 h40 hd3 hd2 hw3 hw2
      go_wp2_with fail
      go_roundw
      case rel => exact ⟨m1 + 1, by omega, by go_num, unhide HKW⟩
      case measure => simp [intOf]; omega
    · have hge : ¬ (N : Int) < 70 := by omega
      clear hlt
      go_wp2_with fail
      obtain ⟨ob, hob⟩ : ∃ o : Obj, o = (.cells #[.int .i64 (-4611686018427387904), .int .i64 (-1), .int .i64 1048576, .int .i64 1048577, .int .i64 1099511627776, .int .i64 4611686018427387905] 3) := ⟨_, rfl⟩
      rw [← hob]
      obtain ⟨gb, hgb⟩ : ∃ g, g = wr.heap.size := ⟨_, rfl⟩
      rw [← hgb]
      obtain ⟨we, hwe⟩ : ∃ we, we = wr.alloc ob := ⟨_, rfl⟩
      rw [← hwe]
      have HKE : Hid (Kp [] wr we) := by rw [hwe]; exact (Kp.refl [] wr).alloc ob
      have HCE : Hid (∀ i, i < 6 → we.cell? ⟨gb, i, none⟩ = some (.int .i64 (nums.getD i 0))) := by
        intro i hi
        have hb := heap_alloc_new wr ob
        rw [← hwe, ← hgb, hob] at hb
        rw [cell_of_row we gb i _ _ _ hb]
        rcases (by omega : i = 0 ∨ i = 1 ∨ i = 2 ∨ i = 3 ∨ i = 4 ∨ i = 5) with rfl | rfl | rfl | rfl | rfl | rfl <;> rfl
      have HKW := hide ((unhide HKr).trans (unhide HKE))
      clear hob hgb hwe HKE HKr hge
      go_loopw [46] (fun i wi => ∃ k : Nat, k ≤ 6 ∧ i = .int .i64 k ∧ Kp [] we wi) (fun i _ => 6 - (intOf i).toNat)
      case atStart => exact ⟨0, by omega, rfl, Kp.refl _ _⟩
      case round =>
        obtain ⟨k, hk, rfl, Ki⟩ := hrel
        have HKi := hide Ki
        clear Ki
        by_cases hlt : k < 6
        · have hlt2 : (k : Int) < 6 := by omega
          have hz := nums_in k
          have hc := (unhide HKi).cell (unhide HCE k hlt) (by simp)
          obtain ⟨z, hzz⟩ : ∃ z, z = nums.getD k 0 := ⟨_, rfl⟩
          rw [← hzz] at hz hc
          obtain ⟨ks, hks⟩ : ∃ k, k = tsplP z.toNat := ⟨_, rfl⟩
          obtain ⟨wi, hwi⟩ : ∃ wi, wi = wr := ⟨_, rfl⟩
          rw [← hwi] at hc HKi ⊢
          have HC1 := hide (tsplit_any z ks wi hks hz)
          have HC2 := hide (rsplit_any z ks wi hks hz)
          clear hzz hks hwi hz
          go_wp2_with fail
          refine (unhide HC1).mono ?_
          rintro ee w2 ⟨rfl, hw⟩
          subst w2
          clear HC1
          go_wp2_with fail
          refine (unhide HC2).mono ?_
          rintro ee w2 ⟨rfl, hw⟩
          subst w2
          clear HC2 hc
          go_wp2_with fail
          go_roundw
          case rel => exact ⟨k + 1, by omega, by go_num, unhide HKi⟩
          case measure => simp [intOf]; omega
        · have hge : ¬ (k : Int) < 6 := by omega
          have HK3 := hide ((unhide HKW).trans (unhide HKi))
          obtain ⟨wi, hwi⟩ : ∃ wi, wi = wr := ⟨_, rfl⟩
          rw [← hwi] at HK3 ⊢
          have HC := hide (kleaves_any 4 wi (by omega))
          clear hlt hwi HKi HCE
          go_wp2_with fail
          refine (unhide HC).mono ?_
          rintro ee w1 ⟨a1, m1, c1, rfl, A1⟩
          have K1 := A1.kp
          obtain ⟨ls, hls⟩ : ∃ x, x = kleavesP 4 := ⟨_, rfl⟩
          have L1 : LcM ls (.slice a1 m1 c1) w1 := by rw [hls]; exact A1.lc (by rw [kleavesP_len]; omega)
          have hlen : ls.length = 4 := by rw [hls, kleavesP_len]
          have HM : Hid (∀ x ∈ ls, x.length ≤ 1000) := by rw [hls]; exact kleavesP_le _
          have HLE := hide hlen
          obtain ⟨rn, hrn⟩ : ∃ r, r = trootP [] := ⟨_, rfl⟩
          have HRN := hide hrn
          have HRX : Hid (rn = trootP ((ls.drop 4).take (4 - 4))) := by rw [Nat.sub_self, List.take_zero]; exact hrn
          obtain ⟨TN, hTN⟩ : ∃ S, S = strOfNums rn := ⟨_, rfl⟩
          have HTN := hide hTN
          have HLL : Hid (∀ w', Kp [] w1.drew w' → LcM ls (.slice a1 m1 c1) w') := fun w' k' => L1.kept ((kp_drew w1).trans k')
          have HGL : Hid (∀ w', Kp [] w1.drew w' → Gl w') := fun w' k' => (unhide HG).kept ((unhide HK3).trans (K1.trans ((kp_drew w1).trans k'))) (by simp)
          have HK1 := hide ((unhide HK3).trans K1)
          clear A1 K1 L1 hls hlen HC hrn hTN hge
          go_wp2_with fail
          refine region_grow Tryd.mixed [Is (.slice a1 m1 c1), Is (.slice none 0 0), Is (.int .i64 0), Is (.bool true), Is (.bool true), Is (.slice a1 m1 c1), Is (.slice none 0 0), Is (.int .i64 0), Is (.bool true), Is (.bool true), Is (.bool true), Is (.slice a1 m1 c1), Is (.slice none 0 0), Is (.int .i64 0), Is (.bool true), Is (.bool true), Is (.bool true), Is (.slice a1 m1 c1), SlT (rn), Is (.string TN), SlT (rn), Is (.string TN), Is (.bool true), Is (.bool true), Is (.bool true), Is (.bool true), Is (.bool true), Is (.bool true)] [[(5, none)], [(57, some 0)], [(58, some 1)], [(59, some 2)], [(60, some 3)], [(5, none), (61, some 4)], [(62, some 5), (61, some 4)], [(63, some 6), (61, some 4)], [(64, some 7), (61, some 4)], [(61, some 4), (65, some 8)], [(66, some 9)], [(5, none), (67, some 10)], [(68, some 11), (67, some 10)], [(69, some 12), (67, some 10)], [(70, some 13), (67, some 10)], [(67, some 10), (71, some 14)], [(72, some 15)], [(5, none), (73, some 16)], [(74, some 17), (73, some 16)], [(75, some 18), (73, some 16)], [(73, some 16)], [(77, some 20), (73, some 16)], [(76, some 19), (78, some 21), (73, some 16)], [(73, some 16), (79, some 22)], [(80, some 23)], [(81, some 24)], [(81, some 24), (82, some 25)], [(83, some 26)]] (by kernel_rfl) ?_ ?_ ?_
          · simp only [List.mem_cons, List.not_mem_nil, or_false]
            intro R hR
            rcases hR with rfl | rfl | rfl | rfl | rfl | rfl | rfl | rfl | rfl | rfl | rfl | rfl | rfl | rfl | rfl | rfl | rfl | rfl | rfl | rfl | rfl | rfl | rfl | rfl | rfl | rfl | rfl | rfl <;> first | exact stable_is _ | exact stable_sl _
          · refine steps_cons (fun a w hk hn => ?_) ?_
            · have h5 : a.eval (.tmp 5) = .slice a1 m1 c1 := hn.1
              clear hn
              refine wants_plain rfl ?_
              exact grown_move (.tmp 5) rfl h5
            refine steps_cons (fun a w hk hn => ?_) ?_
            · have h57 : a.eval (.tmp 57) = .slice a1 m1 c1 := hn.1
              clear hn
              refine wants_plain rfl ?_
              refine grown_call (f := 14) rfl Tryd.func14 (by kernel_rfl) (by kernel_rfl) ?_
              simp only [List.map_toArray, List.map_cons, List.map_nil, h57]
              refine (trange_not _ ls (-1) (2) w (by rw [unhide HLE]; omega) (unhide HLL w hk)).mono ?_
              rintro e w' ⟨rfl, rfl⟩
              exact ⟨_, rfl, Kp.refl _ _, rfl⟩
            refine steps_cons (fun a w hk hn => ?_) ?_
            · have h58 : a.eval (.tmp 58) = .slice none 0 0 := hn.1
              clear hn
              refine wants_plain rfl ?_
              refine grown_run (v := .int .i64 0) ?_ (Kp.refl _ _) rfl
              obtain ⟨ρ, hρ, hc, hf, hg⟩ := eval_is a
              rw [hρ] at h58 ⊢
              simp [go_sem, h58]
            refine steps_cons (fun a w hk hn => ?_) ?_
            · have h59 : a.eval (.tmp 59) = .int .i64 0 := hn.1
              clear hn
              refine wants_plain rfl ?_
              refine grown_run (v := .bool true) ?_ (Kp.refl _ _) rfl
              obtain ⟨ρ, hρ, hc, hf, hg⟩ := eval_is a
              rw [hρ] at h59 ⊢
              simp [go_sem, hc, h59]
            refine steps_cons (fun a w hk hn => ?_) ?_
            · have h60 : a.eval (.tmp 60) = .bool true := hn.1
              clear hn
              refine wants_plain rfl ?_
              exact grown_move (.tmp 60) rfl h60
            refine steps_cons (fun a w hk hn => ?_) ?_
            · have h5 : a.eval (.tmp 5) = .slice a1 m1 c1 := hn.1
              have h61 : a.eval (.tmp 61) = .bool true := hn.2.1
              clear hn
              refine wants_guard (d := 61) rfl rfl h61 ?_
              exact grown_move (.tmp 5) rfl h5
            refine steps_cons (fun a w hk hn => ?_) ?_
            · have h62 : a.eval (.tmp 62) = .slice a1 m1 c1 := hn.1
              have h61 : a.eval (.tmp 61) = .bool true := hn.2.1
              clear hn
              refine wants_guard (d := 61) rfl rfl h61 ?_
              refine grown_call (f := 14) rfl Tryd.func14 (by kernel_rfl) (by kernel_rfl) ?_
              simp only [List.map_toArray, List.map_cons, List.map_nil, h62]
              refine (trange_not _ ls (3) (2) w (by rw [unhide HLE]; omega) (unhide HLL w hk)).mono ?_
              rintro e w' ⟨rfl, rfl⟩
              exact ⟨_, rfl, Kp.refl _ _, rfl⟩
            refine steps_cons (fun a w hk hn => ?_) ?_
            · have h63 : a.eval (.tmp 63) = .slice none 0 0 := hn.1
              have h61 : a.eval (.tmp 61) = .bool true := hn.2.1
              clear hn
              refine wants_guard (d := 61) rfl rfl h61 ?_
              refine grown_run (v := .int .i64 0) ?_ (Kp.refl _ _) rfl
              obtain ⟨ρ, hρ, hc, hf, hg⟩ := eval_is a
              rw [hρ] at h63 ⊢
              simp [go_sem, h63]
            refine steps_cons (fun a w hk hn => ?_) ?_
            · have h64 : a.eval (.tmp 64) = .int .i64 0 := hn.1
              have h61 : a.eval (.tmp 61) = .bool true := hn.2.1
              clear hn
              refine wants_guard (d := 61) rfl rfl h61 ?_
              refine grown_run (v := .bool true) ?_ (Kp.refl _ _) rfl
              obtain ⟨ρ, hρ, hc, hf, hg⟩ := eval_is a
              rw [hρ] at h64 ⊢
              simp [go_sem, hc, h64]
            refine steps_cons (fun a w hk hn => ?_) ?_
            · have h61 : a.eval (.tmp 61) = .bool true := hn.1
              have h65 : a.eval (.tmp 65) = .bool true := hn.2.1
              clear hn
              refine wants_plain rfl ?_
              exact grown_pick _ _ _ true rfl h61 h65
            refine steps_cons (fun a w hk hn => ?_) ?_
            · have h66 : a.eval (.tmp 66) = .bool true := hn.1
              clear hn
              refine wants_plain rfl ?_
              exact grown_move (.tmp 66) rfl h66
            refine steps_cons (fun a w hk hn => ?_) ?_
            · have h5 : a.eval (.tmp 5) = .slice a1 m1 c1 := hn.1
              have h67 : a.eval (.tmp 67) = .bool true := hn.2.1
              clear hn
              refine wants_guard (d := 67) rfl rfl h67 ?_
              exact grown_move (.tmp 5) rfl h5
            refine steps_cons (fun a w hk hn => ?_) ?_
            · have h68 : a.eval (.tmp 68) = .slice a1 m1 c1 := hn.1
              have h67 : a.eval (.tmp 67) = .bool true := hn.2.1
              clear hn
              refine wants_guard (d := 67) rfl rfl h67 ?_
              refine grown_call (f := 14) rfl Tryd.func14 (by kernel_rfl) (by kernel_rfl) ?_
              simp only [List.map_toArray, List.map_cons, List.map_nil, h68]
              refine (trange_not _ ls (0) (5) w (by rw [unhide HLE]; omega) (unhide HLL w hk)).mono ?_
              rintro e w' ⟨rfl, rfl⟩
              exact ⟨_, rfl, Kp.refl _ _, rfl⟩
            refine steps_cons (fun a w hk hn => ?_) ?_
            · have h69 : a.eval (.tmp 69) = .slice none 0 0 := hn.1
              have h67 : a.eval (.tmp 67) = .bool true := hn.2.1
              clear hn
              refine wants_guard (d := 67) rfl rfl h67 ?_
              refine grown_run (v := .int .i64 0) ?_ (Kp.refl _ _) rfl
              obtain ⟨ρ, hρ, hc, hf, hg⟩ := eval_is a
              rw [hρ] at h69 ⊢
              simp [go_sem, h69]
            refine steps_cons (fun a w hk hn => ?_) ?_
            · have h70 : a.eval (.tmp 70) = .int .i64 0 := hn.1
              have h67 : a.eval (.tmp 67) = .bool true := hn.2.1
              clear hn
              refine wants_guard (d := 67) rfl rfl h67 ?_
              refine grown_run (v := .bool true) ?_ (Kp.refl _ _) rfl
              obtain ⟨ρ, hρ, hc, hf, hg⟩ := eval_is a
              rw [hρ] at h70 ⊢
              simp [go_sem, hc, h70]
            refine steps_cons (fun a w hk hn => ?_) ?_
            · have h67 : a.eval (.tmp 67) = .bool true := hn.1
              have h71 : a.eval (.tmp 71) = .bool true := hn.2.1
              clear hn
              refine wants_plain rfl ?_
              exact grown_pick _ _ _ true rfl h67 h71
            refine steps_cons (fun a w hk hn => ?_) ?_
            · have h72 : a.eval (.tmp 72) = .bool true := hn.1
              clear hn
              refine wants_plain rfl ?_
              exact grown_move (.tmp 72) rfl h72
            refine steps_cons (fun a w hk hn => ?_) ?_
            · have h5 : a.eval (.tmp 5) = .slice a1 m1 c1 := hn.1
              have h73 : a.eval (.tmp 73) = .bool true := hn.2.1
              clear hn
              refine wants_guard (d := 73) rfl rfl h73 ?_
              exact grown_move (.tmp 5) rfl h5
            refine steps_cons (fun a w hk hn => ?_) ?_
            · have h74 : a.eval (.tmp 74) = .slice a1 m1 c1 := hn.1
              have h73 : a.eval (.tmp 73) = .bool true := hn.2.1
              clear hn
              refine wants_guard (d := 73) rfl rfl h73 ?_
              refine grown_call (f := 14) rfl Tryd.func14 (by kernel_rfl) (by kernel_rfl) ?_
              simp only [List.map_toArray, List.map_cons, List.map_nil, h74]
              refine (trange_ok _ ls 4 4 rn w (unhide HRX) (by omega) (by rw [unhide HLE]; omega) (by rw [unhide HLE]; omega) (unhide HLL w hk) (unhide HM) (unhide HGL w hk)).mono ?_
              rintro e w' ⟨ao, m, c, rfl, R, K⟩
              exact ⟨_, rfl, K, R.sl⟩
            refine steps_cons (fun a w hk hn => ?_) ?_
            · have h75 : Sl w (a.eval (.tmp 75)) (rn) := hn.1
              have h73 : a.eval (.tmp 73) = .bool true := hn.2.1
              clear hn
              refine wants_guard (d := 73) rfl rfl h73 ?_
              exact grown_conv (.tmp 75) _ _ 5 _ rfl h75 Tryd.underlying24 Tryd.underlying5 Tryd.underlying9 (congrArg Value.string (unhide HTN).symm)
            refine steps_cons (fun a w hk hn => ?_) ?_
            · have h73 : a.eval (.tmp 73) = .bool true := hn.1
              clear hn
              refine wants_guard (d := 73) rfl rfl h73 ?_
              refine grown_call (f := 11) rfl Tryd.func11 (by kernel_rfl) (by kernel_rfl) ?_
              simp only [List.map_toArray, List.map_cons, List.map_nil]
              refine (rroot_any 0 _ [] rn w (unhide HRN) rfl (by omega) (lcm_nil w) (by simp)).mono ?_
              rintro e w' ⟨ao, m, c, rfl, R, K⟩
              exact ⟨_, rfl, K, R⟩
            refine steps_cons (fun a w hk hn => ?_) ?_
            · have h77 : Sl w (a.eval (.tmp 77)) (rn) := hn.1
              have h73 : a.eval (.tmp 73) = .bool true := hn.2.1
              clear hn
              refine wants_guard (d := 73) rfl rfl h73 ?_
              exact grown_conv (.tmp 77) _ _ 5 _ rfl h77 Tryd.underlying24 Tryd.underlying5 Tryd.underlying9 (congrArg Value.string (unhide HTN).symm)
            refine steps_cons (fun a w hk hn => ?_) ?_
            · have h76 : a.eval (.tmp 76) = .string TN := hn.1
              have h78 : a.eval (.tmp 78) = .string TN := hn.2.1
              have h73 : a.eval (.tmp 73) = .bool true := hn.2.2.1
              clear hn
              refine wants_guard (d := 73) rfl rfl h73 ?_
              refine grown_run (v := .bool true) ?_ (Kp.refl _ _) rfl
              obtain ⟨ρ, hρ, hc, hf, hg⟩ := eval_is a
              rw [hρ] at h76 h78 ⊢
              simp [go_sem, h76, h78]
            refine steps_cons (fun a w hk hn => ?_) ?_
            · have h73 : a.eval (.tmp 73) = .bool true := hn.1
              have h79 : a.eval (.tmp 79) = .bool true := hn.2.1
              clear hn
              refine wants_plain rfl ?_
              exact grown_pick _ _ _ true rfl h73 h79
            refine steps_cons (fun a w hk hn => ?_) ?_
            · have h80 : a.eval (.tmp 80) = .bool true := hn.1
              clear hn
              refine wants_plain rfl ?_
              exact grown_move (.tmp 80) rfl h80
            refine steps_cons (fun a w hk hn => ?_) ?_
            · have h81 : a.eval (.tmp 81) = .bool true := hn.1
              clear hn
              refine wants_guard (d := 81) rfl rfl h81 ?_
              refine grown_call (f := 15) rfl Tryd.func15 (by kernel_rfl) (by kernel_rfl) ?_
              simp only [List.map_toArray, List.map_nil]
              refine (tknown_any w (unhide HGL w hk)).mono ?_
              rintro e w' ⟨rfl, K⟩
              exact ⟨_, rfl, K, rfl⟩
            refine steps_cons (fun a w hk hn => ?_) ?_
            · have h81 : a.eval (.tmp 81) = .bool true := hn.1
              have h82 : a.eval (.tmp 82) = .bool true := hn.2.1
              clear hn
              refine wants_plain rfl ?_
              exact grown_pick _ _ _ true rfl h81 h82
            refine steps_cons (fun a w hk hn => ?_) ?_
            · have h83 : a.eval (.tmp 83) = .bool true := hn.1
              clear hn
              refine wants_plain rfl ?_
              exact grown_assign (.tmp 83) rfl h83
            exact trivial
          intro W1 hkW1
          rintro _ rfl
          rintro _ rfl
          rintro _ rfl
          rintro _ rfl
          rintro _ rfl
          rintro _ rfl
          rintro _ rfl
          rintro _ rfl
          rintro _ rfl
          rintro _ rfl
          rintro _ rfl
          rintro _ rfl
          rintro _ rfl
          rintro _ rfl
          rintro _ rfl
          rintro _ rfl
          rintro _ rfl
          rintro _ rfl
          intro v75 h75
          rintro _ rfl
          intro v77 h77
          rintro _ rfl
          rintro _ rfl
          rintro _ rfl
          rintro _ rfl
          rintro _ rfl
          rintro _ rfl
          rintro _ rfl
          refine fin_nil ?_
          simp only [Act.put, List.set_cons_zero, List.set_cons_succ, List.setIfInBounds_toArray]
          go_wp2_with fail
          go_ret
          exact ⟨rfl, ((unhide HK1).trans ((kp_drew w1).trans hkW1)).below (Nat.le_refl _) (by simp)⟩

set_option maxRecDepth 100000 in
theorem lifted (os : Os) (started : os.Started) (H : Type) (enc : TypeId × Value → H) :
    ReturnsInHanded {} Tryd.checked os 3 .any (fun w args => (Rows.treeNumbersSpec.pre enc Tryd.prog Tryd.f3 [] false w args ∧ laidMetH Tryd.prog laid1 w) ∧ sizedMet enc Tryd.prog Tryd.f3 (OpenSpec.ofChange Rows.treeNumbersSpec) false w args) (Rows.treeNumbersSpec.post enc Tryd.prog Tryd.f3 false true false false) := by
  refine returnsInHanded_of_change_and (C := Tryd.checked) (X := fun w _ => laidMetH Tryd.prog laid1 w) (fun _ _ _ hh h => h.of_heap hh) own started (by kernel_rfl) Tryd.func3
    (ChangeSpec.witness_shaped (enc := enc) (C := Tryd.checked) (os := os) (X := fun w _ => laidMetH Tryd.prog laid1 w) false (World.doorLaid Tryd.prog 400 os) #[] 8 rfl (World.shaped_of_RefB (by kernel_rfl) (by kernel_rfl)) (by kernel_rfl) (by kernel_rfl) (by kernel_rfl) (door_met os _)) ?_
  intro W base args ds gs before hval0 hW hcnd hsz0 hL _
  have hG := gl_of_laid hL
  have hval : ∀ (j : Nat) t v, Tryd.f3.params[j]? = some t → args[j]? = some v → Value.okWide Tryd.prog W .any base t v := hval0
  have hW' := hW
  obtain ⟨p, q, hA0, hV, rfl, hfz, hnd⟩ := hW
  have hA : DataW.TrodAll enc Tryd.prog W 0 (fun _ => true) true Tryd.f3.params.toList args.toList ds p := hA0
  rw [Tryd.params3] at hA hval
  obtain ⟨hargs, rfl, rfl⟩ := trodAll_nil hA
  obtain rfl : args = #[] := by cases args; simp_all
  obtain ⟨rfl, rfl⟩ := trodVars_none hV
  clear hA0 hval0
  refine (walk  W hG).mono fun e W' ⟨he, bel⟩ => ?_
  subst he
  exact ⟨_, rfl, _, _, _, [], _, [], hW', trodAll_mk1 (shut_bool Tryd.underlying4 _), trodAll_mk0, rfl, bel.frame _, fun h => by cases h⟩

theorem over : Rows.treeNumbersRow.holds Tryd.pinned (OpenSpec.ofChange Rows.treeNumbersSpec) :=
  OpenClaim.holds_of_wide 3 Tryd.f3 rfl rfl rfl rfl rfl rfl rfl ⟨rfl, rfl, rfl, rfl, rfl⟩ rfl rfl rfl rfl rfl (by kernel_rfl) Tryd.func3 (by kernel_rfl)
    (of_decide_eq_true (by kernel_rfl)) (by unfold Func.isWrapper; first | (rw [if_pos (by decide +kernel)]; kernel_rfl) | (rw [if_neg (by decide +kernel)]; exact ⟨rfl, rfl⟩))
    (fun os started H enc _ => lifted os started H enc)
end Go.Proofs.YtpiekmflfgpalaaDoor.treeNumbers

namespace Go.Proofs.YtpiekmflfgpalaaDoor
/-- The given statement: the tied card. -/
theorem TreeNumbers_holds : Rows.TreeNumbersCardSaid :=
  Claim7.holds_tied_plain_at .later [] [.data] true Rows.treeNumbersCard.stood.harness false
    treeNumbers.over (fun _ h => by cases h) (by kernel_rfl) (fun _ h => by cases h) treeNumbers_row_tie rfl ⟨rfl, rfl⟩ (by kernel_rfl) rfl
    (fun f fn hf hfn => by
      obtain rfl : f = 3 := Option.some.inj ((show Tryd.prog.funcNamed "broadsheet/broadsheetlaw6.TreeNumbers" = some 3 by kernel_rfl).symm.trans hf) |>.symm
      obtain rfl : fn = Tryd.f3 := (Option.some.inj (Tryd.func3.symm.trans hfn)).symm
      exact ⟨by kernel_rfl, fun j t ht => by
        rw [Tryd.params3] at ht
        have hm : t ∈ ([] : List TypeId) := by simpa using Array.mem_of_getElem? ht
        have hall : (([] : List TypeId).all fun u => !Tryd.prog.wantsStandIn u) = true := by kernel_rfl
        exact (show Tryd.prog.wantsStandIn t = false by simpa using List.all_eq_true.1 hall t hm)⟩)
    (by kernel_rfl)
#print axioms TreeNumbers_holds
end Go.Proofs.YtpiekmflfgpalaaDoor
