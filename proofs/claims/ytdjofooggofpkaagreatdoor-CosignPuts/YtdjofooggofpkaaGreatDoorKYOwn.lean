/-
  The contracts of the law package's owners and policy.
-/
import Derived.Test.YtdjofooggofpkaaGreatDoorKYSpecs
import Derived.Test.YtdjofooggofpkaaGreatDoorKSOwner
import Derived.Test.YtdjofooggofpkaaGreatDoorKXKeep
import Derived.Test.YtdjofooggofpkaaGreatDoorKLOnes
import Derived.Test.YtdjofooggofpkaaGreatDoorKLMan
import Derived.Test.YtdjofooggofpkaaGreatDoorKRGrows
namespace Go.Proofs.YtdjofooggofpkaaGreatDoor
open Go.RowKit
open Go.Proofs

theorem Tryz.infoOwn : (Tryz.prog.info? 28).map (fun i => (i.zero, i.size, i.bytes)) = some (some (.pointer none), 1, 8) := by kernel_rfl
/-- what is told of a row of owners. -/
def OwP (j : Nat) (w : World) (x : List Value) : Prop := ∃ g base, x = [.pointer (some ⟨g, 0, none⟩)] ∧ Ow w base g (seedX j) 5
/-- v is a slice of n owners. -/
def OwL (w : World) (v : Value) (n : Nat) : Prop := ∃ ao c, v = .slice ao n c ∧ n ≤ c ∧ ∀ j, j < n → ∃ b off g base, ao = some ⟨b, off, none⟩ ∧ w.cell? ⟨b, off + j, none⟩ = some (.pointer (some ⟨g, 0, none⟩)) ∧ Ow w base g (seedX j) 5
theorem OwL.kept {w w' : World} {v : Value} {n : Nat} (h : OwL w v n) (k : Kp [] w w') : OwL w' v n := by
  obtain ⟨ao, c, e, hc, h⟩ := h
  refine ⟨ao, c, e, hc, fun j hj => ?_⟩
  obtain ⟨b, off, g, base, e1, h1, h2⟩ := h j hj
  exact ⟨b, off, g, base, e1, k.cell h1 (by simp), h2.kept k⟩
def OwLT (n : Nat) : Tell := fun v w => OwL w v n
theorem stable_owl (n : Nat) : Tell.stable (OwLT n) := fun _ _ _ k h => h.kept k
theorem RowQ.owl {n : Nat} {w wr : World} {v : Value} (h : RowQ 28 1 OwP n w v wr) : OwL wr v n := by
  have hh := h
  obtain ⟨ao, c, rfl⟩ := h.shape
  refine ⟨ao, c, rfl, ?_, fun j hj => ?_⟩
  · obtain ⟨⟨xs, h1, h2, _⟩, _⟩ := hh
    rcases h1.1.2 with ⟨e, h0⟩ | ⟨g, cap, cur, e, _, _, hc, _⟩
    · omega
    · injection e with _ _ e3
      omega
  · obtain ⟨g, c', x, e, hx, hr, gg, base, ex, ho⟩ := h.at j hj
    injection e with e1
    subst ex
    exact ⟨g, 0, gg, base, e1, by have := hr 0 _ rfl; simpa using this, ho⟩
theorem OwL.take {w : World} {ao : Option Addr} {n m c : Nat} (h : OwL w (.slice ao n c) n) (hm : m ≤ n) : OwL w (.slice ao m c) m := by
  obtain ⟨ao', c', e, hc, h⟩ := h
  injection e with e1 e2 e3
  subst e1
  subst e3
  exact ⟨ao, c, rfl, by omega, fun j hj => h j (by omega)⟩

set_option maxRecDepth 100000 in
set_option maxHeartbeats 4000000 in
theorem owners_any (n : Nat) (hn : n ≤ 4) (w : World) :
    Calls Tryz.prog 35 #[.int .i64 n] w fun e w' => ∃ ao c, e = .returned (.slice ao n c) ∧ RowQ 28 1 OwP n w (.slice ao n c) w' := by
  have HI : Hid (RowQ 28 1 OwP 0 w (.slice none 0 0) w) := RowQ.nil w
  go_enter Tryz.func35, Tryz.ntmps35
  go_wp2_with fail
  go_loopw [3, 4] (fun vo vi wr => ∃ (k : Nat) (ao : Option Addr) (m c : Nat), k ≤ n ∧ vi = .int .i64 k ∧ vo = .slice ao m c ∧ m = k ∧ RowQ 28 1 OwP k w (.slice ao m c) wr) (fun _ vi _ => n - (intOf vi).toNat)
  case atStart => exact ⟨0, none, 0, 0, by omega, rfl, rfl, rfl, unhide HI⟩
  case round =>
    clear HI
    obtain ⟨k, ao, m, c, hk, rfl, rfl, hmk, hR⟩ := hrel
    have HMK := hide hmk
    have HR := hide hR
    clear hR hmk
    by_cases hlt : k < n
    · have hlt2 : (k : Int) < (n : Int) := by omega
      go_wp2_with fail
      refine (xseed_any k wr).mono ?_
      rintro ee w1 ⟨asl, ms, cs, rfl, R1, K1⟩
      have HC := hide (new_ownS (.slice asl ms cs) (seedX k) w1 R1.sl (seedX_bs k) (seedX_len k))
      have HOw1 := hide R1.own
      have HK1 := hide K1
      clear R1 K1
      go_wp2_with fail
      refine (unhide HC).mono ?_
      rintro ee w2 ⟨g, base, rfl, ⟨sa, sn, sc, esl, O2⟩, K2, hg2⟩
      injection esl with q1 q2 q3
      subst q1
      subst q2
      subst q3
      have HK2 := hide ((unhide HK1).trans K2)
      have HP : Hid (∀ w3, Kp (Value.slice ao m c).ownBlock.toList (w2.alloc (.cells #[.pointer (some ⟨g, 0, none⟩)] 28)) w3 → OwP k w3 [.pointer (some ⟨g, 0, none⟩)]) := fun w3 k3 => by
        refine ⟨g, base, rfl, asl, ms, cs, ?_⟩
        refine OwS.apart (b := wr.heap.size) O2 (Nat.le_trans (unhide HK1).size hg2) (unhide HOw1) (fun q hq => ((unhide HR).own q (by simpa using hq)).2) ((((Kp.refl [] w2).alloc _).mono (by simp)).trans k3)
      have Ga := heap_alloc_new w2 (.cells #[.pointer (some ⟨g, 0, none⟩)] 28)
      clear HC O2 K2 hg2 HK1 HOw1
      go_wp2_with (at_builtin; refine wpList_rowq Tryz.infoOwn rfl (by decide) (by decide) Tryz.underlying80 rfl (.tmp 10) (.tmp 14) rfl rfl (unhide HR) ((unhide HK2).trans ((Kp.refl [] w2).alloc (.cells #[.pointer (some ⟨g, 0, none⟩)] 28))) ⟨w2.heap.size, 0, none⟩ 1 1 [[.pointer (some ⟨g, 0, none⟩)]] rfl rfl (by simp) (news_one _ _ _ _ _ Ga) (by simp [Value.oneCell']) (by omega) (fun j hj w3 k3 => one_at hj (unhide HP w3 k3)) ?_; intro ao5 m5 c5 w5 hm5 R5; refine Hid.out ?_)
      subst hm5
      have HR5 := hide R5
      clear R5 HP Ga HR HK2
      refine hide ?_
      go_wp2_with fail
      go_roundw
      case rel => exact ⟨k + 1, ao5, k + 1, c5, by omega, by go_num, rfl, rfl, unhide HR5⟩
      case measure => simp [intOf]; omega
    · obtain rfl : k = n := by omega
      have hlt2 : ¬ (k : Int) < (k : Int) := by omega
      have hm := unhide HMK
      subst hm
      go_wp2_with fail
      go_ret
      exact ⟨ao, c, rfl, unhide HR⟩

/-- the public keys of the first n. -/
def ownK (n : Nat) : List (List Int) := (List.range n).map (fun i => topP (seedX (i : Nat)))
theorem ownK_succ (n : Nat) : ownK (n + 1) = ownK n ++ [topP (seedX (n : Nat))] := by simp [ownK, List.range_succ]
theorem ownK_len (n : Nat) : (ownK n).length = n := by simp [ownK]
/-- the policy of these. -/
def polK (n : Nat) (q : Int) : Po := ⟨hashX 9, ownK n, q⟩
theorem pol_v {w0 w : World} {n : Nat} {q : Int} {al aw : Option Addr} {ml cl mw cw : Nat} (hn : n ≤ 4) (hS : Sl w (.slice al ml cl) (hashX 9)) (hA : AccR w0 (ownK n) (.slice aw mw cw) w) : PoV w (.agg #[.slice al ml cl, .slice aw mw cw, .int .i64 q]) (polK n q) := by
  obtain ⟨l, h1, h2⟩ := hA.lcm (by rw [ownK_len]; omega)
  exact ⟨al, ml, cl, aw, mw, cw, l, rfl, ⟨hS, hashX_bs 9⟩, h1, h2⟩
section
variable {w w' : World} {g : Nat} {a1 a2 : Option Addr} {n1 c1 n2 c2 : Nat} {q : Int} {fr : Nat × Nat}
theorem noBy_pol {t : TypeId} (hg : w.heap[g]? = some (.cells #[.slice a1 n1 c1, .slice a2 n2 c2, .int .i64 q] t fr)) : NoBy w [g] := by
  intro z hz
  obtain rfl : z = g := by simpa using hz
  refine ⟨_, _, _, hg, fun u hu v => ?_⟩
  rcases (by simpa using hu : u = .slice a1 n1 c1 ∨ u = .slice a2 n2 c2 ∨ u = .int .i64 q) with rfl | rfl | rfl <;> simp
theorem Sl.offBy' {v : Value} {bs : List Int} {S : List Nat} (h : Sl w v bs) (hS : NoBy w S) (k : Kp S w w') : Sl w' v bs := by
  obtain ⟨ao, c, e, _⟩ := id h
  subst e
  exact Sl.offBy h hS k
theorem rowS_off {t : TypeId} {base : Nat} {v : Value} {l : List (Value × List Int)} (h : RowS w base v l) (hg : w.heap[g]? = some (.cells #[.slice a1 n1 c1, .slice a2 n2 c2, .int .i64 q] t fr)) (k : Kp [g] w w') (hb : g < base) : RowS w' base v l :=
  ⟨h.1.kept k (fun i hi => by have := h.1.own i hi; simp; omega), fun x hx => ⟨(h.2 x hx).1.offBy' (noBy_pol hg) k, (h.2 x hx).2⟩⟩
theorem ar_off {t : TypeId} {B : Nat} {ls : List (List Int)} {v : Value} (h : ARt B ls v w) (hg : w.heap[g]? = some (.cells #[.slice a1 n1 c1, .slice a2 n2 c2, .int .i64 q] t fr)) (k : Kp [g] w w') (hb : g < B) : ARt B ls v w' := by
  obtain ⟨ao, m, c, l, e, h1, h2⟩ := h
  exact ⟨ao, m, c, l, e, rowS_off h1 hg k hb, h2⟩
end
/-- one more behind the row, and what was changed. -/
theorem wpList_accpB {W : World} {ops : Array Oper} {rest : List Oper} {o : Oper} {a : Act} {Q : Exit → Act → World → Prop} (hgd : o.guard = none) (s x : Operand)
    (ho : o.op = .call { callee := .builtin .append, args := #[s, x], argTypes := #[22, 22] }) (v vx : Value) (hs : a.eval s = v) (hsx : a.eval x = vx) (ls : List (List Int)) (B : Nat) (hA : ARt B ls v W) (hl : ls.length ≤ 1000000)
    (bs : List Int) (hx : OneT B bs vx W) (hb : Bs bs) (hB : B ≤ W.heap.size)
    (h : ∀ ao m c w', ARt B (ls ++ [bs]) (.slice ao m c) w' → RStep W v w' (.slice ao m c) → wpList Tryz.prog ops Q rest (a.put o.dst (.slice ao m c)) w') : wpList Tryz.prog ops Q (o :: rest) a W := by
  obtain ⟨av, mv, cv, l, rfl, hP, hl2⟩ := hA
  obtain ⟨g, u, rfl, hcu, au, mu, cu, rfl, hSu, hAp⟩ := hx
  have hap : ∀ i, (Value.slice au mu cu).ownBlock = some i → (Value.slice av mv cv).ownBlock = some i → bs = [] := by
    intro i h1 h2
    obtain ⟨cc, hcc⟩ := rowv_ty hP.1 h2
    rcases hAp i h1 with h3 | h3 | ⟨c3, h3⟩
    · exact h3
    · have := hP.1.own i h2; omega
    · rw [hcc] at h3
      injection h3 with h3
      injection h3 with _ h3
      cases h3
  refine wpList_append_rowv hgd s x ho B (.slice av mv cv) (l.map (·.1)) hs hP.1 ⟨g, 0, none⟩ 1 [.slice au mu cu] hsx ?_ ?_ ?_ hB ?_
  · intro j y hy
    match j, hy with
    | 0, hy =>
      have : y = .slice au mu cu := by simpa using hy.symm
      subst this
      rw [Addr.add_zero']
      exact hcu
    | j + 1, hy => simp at hy
  · simp [Value.oneCell']
  · have : l.length = ls.length := by rw [← hl2]; simp
    simp; omega
  · intro ao m c w' r st
    exact h ao m c w' ⟨ao, m, c, l ++ [(.slice au mu cu, bs)], rfl, hP.snocR (x := (.slice au mu cu, bs)) hSu hb hap r st, by simp [hl2]⟩ st
/-- an owner's public key: where it lay. -/
theorem own_publicK (g base : Nat) (bs r : List Int) (hr : r = topP bs) (w0 : World) (hO : Ow w0 base g bs 5) (w : World) (k : Kp [] w0 w) :
    Calls Tryz.prog 54 #[.pointer (some ⟨g, 0, none⟩)] w fun e w' => ∃ ao m c, e = .returned (.slice ao m c) ∧ Sl w0 (.slice ao m c) r ∧ w' = w := by
  obtain ⟨sa, sn, sc, gl, c, h0, h1, _, h2⟩ := hO.open
  obtain ⟨al, nl, cl, l, h3, h4, h5⟩ := h2 4 (by omega)
  obtain ⟨b, off, ay, ny, cy, rfl, hc, hS, _⟩ := lists_at h4 h5 0 (by rw [lvP_len]; decide)
  have hn : nl = 1 := by
    obtain ⟨ao', c', e, _⟩ := h4
    injection e with _ e2
    rw [e2, ← List.length_map (f := (·.2)), h5, lvP_len]
  subst hn
  have HS : Hid (Sl w0 (.slice ay ny cy) r) := by rw [hr]; exact hS
  rw [Nat.add_zero] at hc
  replace h1 := k.cell h1 (by simp)
  replace h3 := k.cell h3 (by simp)
  replace hc := k.cell hc (by simp)
  clear h2 h4 h5 hS hO hr h0
  go_enter Tryz.func54, Tryz.ntmps54
  go_wp2_with fail
  go_ret
  exact ⟨ay, ny, cy, rfl, unhide HS, rfl⟩

set_option maxRecDepth 100000 in
set_option maxHeartbeats 8000000 in
theorem policy_row (vo : Value) (nn : Nat) (q : Int) (w : World) (hO : OwL w vo nn) (hn : nn ≤ 4) :
    Calls Tryz.prog 36 #[vo, .int .i64 q] w fun e w' => ∃ al ml cl aw mw cw, e = .returned (.agg #[.slice al ml cl, .slice aw mw cw, .int .i64 q]) ∧ Row w' w.heap.size (.slice al ml cl) (hashX 9) ∧ AccR w (ownK nn) (.slice aw mw cw) w' := by
  have HO := hide hO
  obtain ⟨ao, co, rfl, -, -⟩ := hO
  obtain ⟨g4, hg4⟩ : ∃ g, g = w.heap.size := ⟨_, rfl⟩
  obtain ⟨w1, hw1⟩ : ∃ w1, w1 = w.alloc (.cells #[.slice none 0 0, .slice none 0 0, .int .i64 0] 83) := ⟨_, rfl⟩
  have K1 : Kp [] w w1 := by rw [hw1]; exact (Kp.refl [] w).alloc _
  have G1 : w1.heap[g4]? = some (.cells #[.slice none 0 0, .slice none 0 0, .int .i64 0] 83 (0, 0)) := by rw [hw1, hg4]; exact heap_alloc_new w _
  have HK1 := hide K1
  have HZ1 : Hid (w.heap.size < w1.heap.size) := hide (by rw [hw1]; simp)
  have HG1 := hide G1
  have HW1 := hide hw1
  have H4 := hide hg4
  clear hw1 K1 G1 hg4
  go_enter Tryz.func36, Tryz.ntmps36
  go_wp2_with fail
  rw [← unhide HW1, ← unhide H4]
  refine (xhash_any 9 w1).mono ?_
  rintro ee w2 ⟨al, ml, cl, rfl, R2, K2⟩
  have HR2 := hide R2
  have HK2 := hide ((unhide HK1).trans K2)
  have HG2 := hide (K2.heap (unhide HG1) (by simp))
  have Ga := heap_alloc_new w2 (.cells #[.slice none 0 0, .slice none 0 0, .int .i64 0] 83)
  have HKa : Hid (Kp [] w2 (w2.alloc (.cells #[.slice none 0 0, .slice none 0 0, .int .i64 0] 83))) := (Kp.refl [] w2).alloc _
  clear R2 K2 HG1
  go_wp2_with (refine wpList_store_flat rfl 83 (.tmp 5) (.tmp 9) rfl w2.heap.size 0 rfl _ _ [.slice al ml cl, .slice none 0 0, .int .i64 q] Ga rfl (by simp) Tryz.polSize (by simp [Value.oneCell']) #[.slice al ml cl, .slice none 0 0, .int .i64 q] rfl ?_; intro w3 G3 K3; refine Hid.out ?_)
  obtain ⟨g5, hg5⟩ : ∃ g, g = w2.heap.size := ⟨_, rfl⟩
  have K23 : Kp [] w2 w3 := (unhide HKa).then K3 (fun i hi => .inr (by simp at hi; omega))
  rw [← hg5] at G3 ⊢
  have HK3 := hide ((unhide HK2).trans K23)
  have HG23 := hide (K23.heap (unhide HG2) (by simp))
  have HS3 := hide ((unhide HR2).kept K23 (by simp))
  have h45 : g4 < g5 := by rw [hg5]; exact lt_of_block (unhide HG2)
  have hw5 : w.heap.size < g5 := by have := unhide H4; omega
  have HSO : Hid (∀ i, (Value.slice al ml cl).ownBlock = some i → i < g5) := hide (fun i hi => by rw [hg5]; exact (unhide HR2).lt hi)
  have HA3 : Hid (∃ aw mw cw, w3.heap[g5]? = some (.cells #[.slice al ml cl, .slice aw mw cw, .int .i64 q] 83 (0, 0)) ∧ ARt w3.heap.size [] (.slice aw mw cw) w3) := ⟨none, 0, 0, G3, (AccR.nil w3).ar (Nat.le_refl _)⟩
  have h53 : g5 < w3.heap.size := lt_of_block G3
  clear Ga HKa G3 K3 K23 hg5 HR2 HG2 HK2
  refine hide ?_
  go_wp2_with fail
  go_loopw [6] (fun vi wr => ∃ k : Nat, k ≤ nn ∧ vi = .int .i64 k ∧ (∃ aw mw cw, wr.heap[g5]? = some (.cells #[.slice al ml cl, .slice aw mw cw, .int .i64 q] 83 (0, 0)) ∧ ARt w3.heap.size (ownK k) (.slice aw mw cw) wr) ∧ Kp [g5] w3 wr) (fun vi _ => nn - (intOf vi).toNat)
  case atStart => exact ⟨0, by omega, rfl, unhide HA3, Kp.refl _ _⟩
  case round =>
    clear HA3
    obtain ⟨k, hk, rfl, ⟨aw, mw, cw, hG5, hA⟩, hKr⟩ := hrel
    have HG5 := hide hG5
    have HA := hide hA
    have HKr := hide hKr
    have HKw : Hid (Kp [] w wr) := (unhide HK3).then hKr (fun i hi => .inr (by simp at hi; omega))
    have hwr5 : g5 < wr.heap.size := lt_of_block hG5
    clear hG5 hA hKr
    by_cases hlt : k < nn
    · have hlt2 : (k : Int) < (nn : Int) := by omega
      obtain ⟨ao', co', e', -, hcell⟩ := unhide HO
      injection e' with e1 e2 e3
      subst e1
      obtain ⟨bo, oo, go, base, rfl, hx, hOw⟩ := hcell k hlt
      obtain ⟨w0, hw0⟩ : ∃ w0, w0 = w := ⟨_, rfl⟩
      have HOW : Hid (Ow w0 base go (seedX k) 5) := hide (by rw [hw0]; exact hOw)
      have HK0 : Hid (∀ w', Kp [] wr.drew w' → Kp [] w0 w') := fun w' k' => by rw [hw0]; exact (unhide HKw).trans ((kp_drew wr).trans k')
      have HXC : Hid (∀ w', Kp [] wr.drew w' → w'.cell? ⟨bo, oo + k, none⟩ = some (.pointer (some ⟨go, 0, none⟩))) := fun w' k' => (unhide HK0 w' k').cell (by rw [hw0]; exact hx) (by simp)
      have HT5 : Hid (∀ w', Kp [] wr.drew w' → w'.heap[g5]? = some (.cells #[.slice al ml cl, .slice aw mw cw, .int .i64 q] 83 (0, 0))) := fun w' k' => ((kp_drew wr).trans k').heap (unhide HG5) (by simp)
      have HW0 := hide hw0
      clear hcell hx hOw e2 e3 hw0 HO
      go_wp2_with fail
      refine region_grow_tail 8 Tryz.mixed [Is (.pointer (some ⟨g5, 1, none⟩)), Is (.slice aw mw cw), Is (.slice (some ⟨bo, oo, none⟩) nn co), Is (.int .i64 k), Is (.pointer (some ⟨bo, oo + k, none⟩)), Is (.pointer (some ⟨go, 0, none⟩)), RtT w0.heap.size (topP (seedX k)), OneT w0.heap.size (topP (seedX k))] [[(5, none)], [(16, some 0)], [(0, none)], [(6, none)], [(18, some 2), (19, some 3)], [(20, some 4)], [(21, some 5)], [(22, some 6)]] (by kernel_rfl) ?_ ?_ ?_
      all_goals try simp only [List.take_succ_cons, List.take_zero, List.drop_succ_cons, List.drop_zero]
      · simp only [List.mem_cons, List.not_mem_nil, or_false]
        intro R hR
        rcases hR with rfl | rfl | rfl | rfl | rfl | rfl | rfl | rfl <;> first | exact stable_is _ | exact stable_rt _ _ | exact stable_onet _ _
      · refine steps_cons (fun a w hk hn => ?_) ?_
        · have h5 : a.eval (.tmp 5) = .pointer (some ⟨g5, 0, none⟩) := hn.1
          clear hn
          refine wants_plain rfl ?_
          refine grown_run (v := .pointer (some ⟨g5, 1, none⟩)) ?_ (Kp.refl _ _) rfl
          obtain ⟨ρ, hρ, hc, hf, hg⟩ := eval_is a
          rw [hρ] at h5 ⊢
          simp [go_sem, h5]
        refine steps_cons (fun a w hk hn => ?_) ?_
        · have h16 : a.eval (.tmp 16) = .pointer (some ⟨g5, 1, none⟩) := hn.1
          clear hn
          refine wants_plain rfl ?_
          refine grown_run (v := .slice aw mw cw) ?_ (Kp.refl _ _) rfl
          have hcell : w.cell? ⟨g5, 1, none⟩ = some (.slice aw mw cw) := by rw [cell_of_row w g5 1 _ _ _ (unhide HT5 w hk)]; rfl
          obtain ⟨ρ, hρ, hc, hf, hg⟩ := eval_is a
          rw [hρ] at h16 ⊢
          simp [go_sem, h16, hcell]
        refine steps_cons (fun a w hk hn => ?_) ?_
        · have h0 : a.eval (.tmp 0) = .slice (some ⟨bo, oo, none⟩) nn co := hn.1
          clear hn
          refine wants_plain rfl ?_
          exact grown_move (.tmp 0) rfl h0
        refine steps_cons (fun a w hk hn => ?_) ?_
        · have h6 : a.eval (.tmp 6) = .int .i64 k := hn.1
          clear hn
          refine wants_plain rfl ?_
          exact grown_move (.tmp 6) rfl h6
        refine steps_cons (fun a w hk hn => ?_) ?_
        · have h18 : a.eval (.tmp 18) = .slice (some ⟨bo, oo, none⟩) nn co := hn.1
          have h19 : a.eval (.tmp 19) = .int .i64 k := hn.2.1
          clear hn
          refine wants_plain rfl ?_
          refine grown_run (v := .pointer (some ⟨bo, oo + k, none⟩)) ?_ (Kp.refl _ _) rfl
          obtain ⟨ρ, hρ, hc, hf, hg⟩ := eval_is a
          rw [hρ] at h18 h19 ⊢
          simp [go_sem, h18, h19, hlt2]
        refine steps_cons (fun a w hk hn => ?_) ?_
        · have h20 : a.eval (.tmp 20) = .pointer (some ⟨bo, oo + k, none⟩) := hn.1
          clear hn
          refine wants_plain rfl ?_
          refine grown_run (v := .pointer (some ⟨go, 0, none⟩)) ?_ (Kp.refl _ _) rfl
          have hcell := unhide HXC w hk
          obtain ⟨ρ, hρ, hc, hf, hg⟩ := eval_is a
          rw [hρ] at h20 ⊢
          simp [go_sem, h20, hcell]
        refine steps_cons (fun a w hk hn => ?_) ?_
        · have h21 : a.eval (.tmp 21) = .pointer (some ⟨go, 0, none⟩) := hn.1
          clear hn
          refine wants_plain rfl ?_
          refine grown_call (f := 54) rfl Tryz.func54 (by kernel_rfl) (by kernel_rfl) ?_
          simp only [List.map_toArray, List.map_cons, List.map_nil, h21]
          refine (own_publicK go base (seedX k) _ rfl w0 (unhide HOW) w (unhide HK0 w hk)).mono ?_
          rintro e w' ⟨ao, m, c, rfl, S, rfl⟩
          exact ⟨_, rfl, Kp.refl _ _, ⟨ao, m, c, rfl, S.kept (unhide HK0 w' hk) (by simp), ap_old S (Nat.le_refl _)⟩⟩
        refine steps_cons (fun a w hk hn => ?_) ?_
        · have h22 : (RtT w0.heap.size (topP (seedX k))) (a.eval (.tmp 22)) w := hn.1
          clear hn
          refine wants_plain rfl ?_
          exact grown_onet (.tmp 22) rfl _ _ h22
        exact trivial
      intro W1 hkW1
      rintro _ rfl
      rintro _ rfl
      rintro _ rfl
      rintro _ rfl
      rintro _ rfl
      rintro _ rfl
      intro v22 h22
      intro v23 h23
      refine fin_nil ?_
      simp only [Act.put, List.set_cons_zero, List.set_cons_succ, List.setIfInBounds_toArray]
      have hwz : w0.heap.size ≤ w3.heap.size := by rw [unhide HW0]; exact (unhide HK3).size
      have HAW : ARt w3.heap.size (ownK k) (.slice aw mw cw) W1 := stable_ar _ _ _ _ _ ((kp_drew wr).trans hkW1) (unhide HA)
      have HOn : OneT w3.heap.size (topP (seedX k)) v23 W1 := by
        obtain ⟨g, u, e, c1, a1, m1, c2, e2, s1, p1⟩ := h23
        exact ⟨g, u, e, c1, a1, m1, c2, e2, s1, p1.mono hwz⟩
      have HG5W := hide (unhide HT5 W1 hkW1)
      have HKW : Hid (Kp [g5] w3 W1) := (unhide HKr).trans ((((kp_drew wr).trans hkW1)).mono (by simp))
      have hz1 : w3.heap.size ≤ W1.heap.size := (unhide HKW).size
      clear h22 h23
      go_wp2_with (at_builtin; refine wpList_accpB rfl (.tmp 17) (.tmp 23) rfl (.slice aw mw cw) v23 rfl rfl (ownK k) w3.heap.size HAW (by rw [ownK_len]; omega) (topP (seedX k)) HOn (topP_ok _).2 hz1 ?_; intro a5 m5 c5 w5 A5 S5; refine Hid.out ?_)
      have K15 : Kp [] w3 w5 ∨ True := .inr trivial
      have hne : g5 ∉ (Value.slice aw mw cw).ownBlock.toList := fun hm => by
        obtain ⟨a', m', c', l', e', h1, _⟩ := HAW
        have := h1.1.own g5 (by rw [← e']; simpa using hm)
        omega
      have G5 := S5.1.heap (unhide HG5W) hne
      have c5w : w5.cell? ⟨g5, 1, none⟩ = some (.slice aw mw cw) := by rw [cell_of_row w5 g5 1 _ _ _ G5]; rfl
      have f5w : w5.frozen? ⟨g5, 1, none⟩ = false := frozen_of_row w5 g5 1 _ _ G5
      have K35 : Kp [g5] w3 w5 := (unhide HKW).then S5.1 (fun i hi => .inr (by
        obtain ⟨a', m', c', l', e', h1, _⟩ := HAW
        exact h1.1.own i (by rw [← e']; simpa using hi)))
      have HNEXT : Hid ((∃ aw mw cw, (w5.setCell ⟨g5, 1, none⟩ (.slice a5 m5 c5)).heap[g5]? = some (.cells #[.slice al ml cl, .slice aw mw cw, .int .i64 q] 83 (0, 0)) ∧ ARt w3.heap.size (ownK (k + 1)) (.slice aw mw cw) (w5.setCell ⟨g5, 1, none⟩ (.slice a5 m5 c5))) ∧ Kp [g5] w3 (w5.setCell ⟨g5, 1, none⟩ (.slice a5 m5 c5))) := by
        refine ⟨⟨a5, m5, c5, ?_, ?_⟩, K35.setCell (p := ⟨g5, 1, none⟩) (.inl (by simp)) _⟩
        · have := heap_setCell_same w5 g5 1 _ _ (.slice a5 m5 c5) G5
          simpa using this
        · rw [ownK_succ]
          exact ar_off A5 G5 (setCell_kp w5 g5 1 _) (by omega)
      clear K15 K35 G5 hne A5 S5 HAW HOn hz1 hwz HG5W HKW
      refine hide ?_
      go_wp2_with fail
      go_roundw
      case rel => exact ⟨k + 1, by omega, by go_num, (unhide HNEXT).1, (unhide HNEXT).2⟩
      case measure => simp [intOf]; omega
    · obtain rfl : k = nn := by omega
      have hlt2 : ¬ (k : Int) < (k : Int) := by omega
      have G4r := (unhide HKr).heap (unhide HG23) (by simp; omega)
      have c0 : wr.cell? ⟨g5, 0, none⟩ = some (.slice al ml cl) := by rw [cell_of_row wr g5 0 _ _ _ (unhide HG5)]; rfl
      have c1 : wr.cell? ⟨g5, 1, none⟩ = some (.slice aw mw cw) := by rw [cell_of_row wr g5 1 _ _ _ (unhide HG5)]; rfl
      have c2 : wr.cell? ⟨g5, 2, none⟩ = some (.int .i64 q) := by rw [cell_of_row wr g5 2 _ _ _ (unhide HG5)]; rfl
      clear HO
      go_wp2_with (refine wpList_store_flat rfl 83 (.tmp 4) (.tmp 26) rfl g4 0 rfl _ _ [.slice al ml cl, .slice aw mw cw, .int .i64 q] G4r rfl (by simp) Tryz.polSize (by simp [Value.oneCell']) #[.slice al ml cl, .slice aw mw cw, .int .i64 q] rfl ?_; intro w9 G9 K9)
      refine bodyPost_ret (results_flat1 rfl _ rfl G9 Tryz.underlying83 rfl Tryz.polSize) rfl ?_
      refine ⟨al, ml, cl, aw, mw, cw, rfl, ?_, ?_⟩
      · have h1 := ((unhide HS3).kept (unhide HKr) (fun i hi => by have := unhide HSO i hi; simp; omega)).kept K9 (fun i hi => by have := (unhide HS3).own i hi; have := unhide H4; have := unhide HZ1; simp; omega)
        exact row_new h1 (unhide HK1)
      · obtain ⟨a', m', c', l, e', h1, h2⟩ := unhide HA
        cases e'
        refine ⟨l, ?_, h2, (unhide HKw).then K9 (fun i hi => .inr (by simp at hi; have := unhide H4; omega))⟩
        refine RowS.rebase (rowS_off h1 G4r K9 (by omega)) (unhide HK3).size
theorem policy_any (vo : Value) (nn : Nat) (q : Int) (w : World) (hO : OwL w vo nn) (hn : nn ≤ 4) :
    Calls Tryz.prog 36 #[vo, .int .i64 q] w fun e w' => ∃ al ml cl aw mw cw, e = .returned (.agg #[.slice al ml cl, .slice aw mw cw, .int .i64 q]) ∧ Sl w' (.slice al ml cl) (hashX 9) ∧ AccR w (ownK nn) (.slice aw mw cw) w' := by
  refine (policy_row vo nn q w hO hn).mono ?_
  rintro e w' ⟨al, ml, cl, aw, mw, cw, h1, h2, h3⟩
  exact ⟨al, ml, cl, aw, mw, cw, h1, h2.sl, h3⟩
end Go.Proofs.YtdjofooggofpkaaGreatDoor
