/-
  A signed checkpoint that is told by a call and stored in a new block, in whatever order: what stays.
-/
import Derived.Test.YteabdojjllfcpaaGreatQC22
import Derived.Test.YteabdojjllfcpaaGreatQC19
namespace Go.Proofs.YteabdojjllfcpaaGreat.umix
open Go.RowKit
open Go.Proofs
open Go.Proofs.YteabdojjllfcpaaGreat
set_option linter.unusedVariables false
/-- a block that holds a signed checkpoint. -/
def IsSg (w : World) (g : Nat) : Prop := ∃ (x y : Int) (a1 : Option Addr) (n1 c1 : Nat) (a2 : Option Addr) (n2 c2 : Nat) (a3 : Option Addr) (n3 c3 : Nat), w.heap[g]? = some (.cells #[.int .i64 x, .slice a1 n1 c1, .int .i64 y, .slice a2 n2 c2, .slice a3 n3 c3] 150 (0, 0))
def AnyT : Tell := fun _ _ => True
def SgAT (b : Nat) (s : Sg) : Tell := fun v w => SgA b w v s
/-- nothing old was changed, but for one signed checkpoint from B on. -/
def KN (B : Nat) (w w' : World) : Prop := Kp [] w w' ∨ ∃ g, B ≤ g ∧ IsSg w g ∧ IsSg w' g ∧ Kp [g] w w'
def NewX (B : Nat) : Tell := fun v w => ∃ g, v = .pointer (some ⟨g, 0, none⟩) ∧ IsSg w g ∧ B ≤ g
/-- what was stored so far. -/
def GN (w0 : World) (k tp tv : Nat) (listed : Array Bool) (a : Act) (w : World) : Prop :=
  Kp [] w0 w ∧ (listed.getD k false = true → ∃ g cs, a.eval (.tmp tp) = .pointer (some ⟨g, 0, none⟩) ∧ a.eval (.tmp tv) = .agg cs ∧ w.heap[g]? = some (.cells cs 150 (0, 0)))
section
variable {w0 w w' : World} {k tp tv : Nat} {listed : Array Bool} {a : Act}
theorem GN.free (h : GN w0 k tp tv listed a w) (k' : Nat) (hk : k' ≠ k) (d : Tmp) (hd : d = tp ∨ d = tv → listed.getD k false = false) (v : Value) (K : Kp [] w w') : GN w0 k tp tv (listed.setIfInBounds k' true) (a.put (some d) v) w' := by
  refine ⟨h.1.trans K, fun hl => ?_⟩
  rw [getD_set_neM hk] at hl
  obtain ⟨g, cs, e1, e2, hg⟩ := h.2 hl
  have h1 : d ≠ tp := fun e => by rw [hd (.inl e)] at hl; cases hl
  have h2 : d ≠ tv := fun e => by rw [hd (.inr e)] at hl; cases hl
  exact ⟨g, cs, by rw [eval_put_ne h1]; exact e1, by rw [eval_put_ne h2]; exact e2, K.heap hg (by simp)⟩
theorem GN.st {ops : Array Oper} {o : Oper} {b : Nat} {s : Sg} (h : GN w0 k tp tv listed a w) (hsz : k < listed.size) (hg : o.guard = none) (ho : o.op = .store 150 (.tmp tp) (.tmp tv)) (hd : o.dst = none) (hp : NewX w0.heap.size (a.eval (.tmp tp)) w) (hu : SgAT b s (a.eval (.tmp tv)) w) : wantsG (KN w0.heap.size) (GN w0 k tp tv (listed.setIfInBounds k true)) Tryz.prog ops o a w AnyT := by
  obtain ⟨g, e1, hs, hb⟩ := hp
  have hu' : SgV w (a.eval (.tmp tv)) s := SgA.v hu
  obtain ⟨ar, mr, cr, ap, np, cp, aq, nq, cq, e2, -, -⟩ := hu'.shape
  obtain ⟨x, y, a1, n1, c1, a2, n2, c2, a3, n3, c3, hh⟩ := id hs
  have K := kp_fcells w g [.int .i64 s.n, .slice ar mr cr, .int .i64 s.i, .slice ap np cp, .slice aq nq cq] 0 w (Kp.refl _ _)
  have G' := heap_fcells g _ [.int .i64 s.n, .slice ar mr cr, .int .i64 s.i, .slice ap np cp, .slice aq nq cq] 0 w _ hh
  have hrun := run_storeAt_mid (P := Tryz.prog) w g 0 150 #[.int .i64 s.n, .slice ar mr cr, .int .i64 s.i, .slice ap np cp, .slice aq nq cq] (fun j hj => by
    rw [Nat.zero_add, cell_of_row w g j _ _ _ hh]
    refine ⟨?_, frozen_of_row w g j _ _ hh⟩
    have hj5 : j < 5 := by simpa using hj
    rcases (by omega : j = 0 ∨ j = 1 ∨ j = 2 ∨ j = 3 ∨ j = 4) with rfl | rfl | rfl | rfl | rfl <;> rfl) Tryz.sgdSize (by simp [Value.oneCell'])
  refine wantsG_skipM (w' := w.setCells g 0 [.int .i64 s.n, .slice ar mr cr, .int .i64 s.i, .slice ap np cp, .slice aq nq cq]) hg ?_ ⟨⟨.inr ⟨g, hb, hs, ⟨s.n, s.i, ar, mr, cr, ap, np, cp, aq, nq, cq, G'⟩, K⟩, h.1.then K (fun i hi => .inr (by simp at hi; omega)), fun _ => ⟨g, _, by rw [hd]; exact e1, by rw [hd]; exact e2, G'⟩⟩, trivial⟩
  unfold execOp
  simp only [ho, e1, e2, Sem.run_bind, hrun, Result.andThen_ok, Sem.run_pure]
  exact .inl trivial
end
end Go.Proofs.YteabdojjllfcpaaGreat.umix

/-
  The contracts of package ledger: Find, signNow, Publish, Last.
-/
namespace Go.Proofs.YteabdojjllfcpaaGreat
open Go.RowKit
open Go.Proofs
open Go.Proofs.YteabdojjllfcpaaGreat.umix
set_option linter.unusedVariables false
theorem Stp.aside {F F' : Nat → Prop} {w w1 w2 : World} {T : List Nat} (h : Stp F w w1 F') (k : Kp T w1 w2) (hT : ∀ i ∈ T, w.heap.size ≤ i) : Stp F w w2 F' := by
  obtain ⟨⟨U, hU, kU⟩, h2⟩ := h
  exact ⟨⟨U, hU, kU.then k (fun i hi => .inr (hT i hi))⟩, fun i hi => (h2 i hi).imp id (fun h => ⟨h.1, Nat.lt_of_lt_of_le h.2 k.size⟩)⟩
section
variable {w0 w : World} {l pd pk : Nat} {S : LS} {f : Fps}
set_option maxRecDepth 100000 in
set_option maxHeartbeats 2000000 in
theorem ufind_any (h : Lg w0 w l pd pk S f) (vx : Value) (x : List Int) (hS : Sl w vx x) (hB : Bs x) (hl : x.length ≤ 65535) (b : Bool) (hb : b = decide (x ∈ S.its)) (c : Int) (hc : c = if b then (S.its.idxOf x : Int) else 0) :
    Calls Tryz.prog 27 #[.pointer (some ⟨l, 0, none⟩), vx] w fun e w' => e = .returned (.tuple #[.int .i64 c, .bool b]) ∧ Kp [] w w' := by
  obtain ⟨j, s, q, vs, pv, hx⟩ := h
  obtain ⟨av, cv, hvs, -⟩ := hx.sd
  obtain ⟨nv, hnv⟩ : ∃ n, n = S.seed.length := ⟨_, rfl⟩
  rw [← hnv] at hvs
  subst hvs
  have HAt : Hid (∀ w', Kp [] w.drew w' → Fv 80 w' l (.func (.func 34) #[.pointer (some ⟨j, 0, none⟩)] #[]) (.pointer (some ⟨s, 0, none⟩)) (.pointer (some ⟨q, 0, none⟩)) (.slice av nv cv) pv) := fun w' k => hx.at_.kept ((kp_drew w).trans k) (by simp)
  have HSh : Hid (∀ w', Kp [] w.drew w' → Sh w' s S.its (f 4)) := fun w' k => hx.sh.kept ((kp_drew w).trans k) (by simp)
  have HCv : Hid (∀ w', Kp [] w.drew w' → (convert 28 9 vx).run Tryz.prog w' = .ok (.string (strOfNums x)) w') := fun w' k => (hS.kept ((kp_drew w).trans k) (by simp)).conv (P := Tryz.prog) 28 9 5 Tryz.underlying28 Tryz.underlying5 Tryz.underlying9
  obtain ⟨ax, cx, hvx, -⟩ := hS
  obtain ⟨nx, hnx⟩ : ∃ n, n = x.length := ⟨_, rfl⟩
  rw [← hnx] at hvx
  subst hvx
  have HB := hide hB
  have HL := hide hl
  have HBb := hide hb
  have HCc := hide hc
  clear hx hB hl hb hc hnv hnx
  go_enter Tryz.func27, Tryz.ntmps27
  go_wp2_with fail
  refine region_grow Tryz.mixed [Is (.pointer (some ⟨l, 0, none⟩)), Is (.pointer (some ⟨l, 0, none⟩)), Is (.pointer (some ⟨l, 1, none⟩)), Is (.pointer (some ⟨s, 0, none⟩)), Is (.slice ax nx cx), Is (.string (strOfNums x)), Is (.tuple #[.int .i64 c, .bool b]), Is (.int .i64 c), Is (.bool b), Is (.int .i64 c), Is (.bool b)] [[(0, none)], [(6, some 0)], [(7, some 1)], [(8, some 2)], [(1, none)], [(10, some 4)], [(9, some 3), (11, some 5)], [(12, some 6)], [(12, some 6)], [(13, some 7)], [(14, some 8)]] (by kernel_rfl) ?_ ?_ ?_
  · simp only [List.mem_cons, List.not_mem_nil, or_false]
    intro R hR
    rcases hR with rfl | rfl | rfl | rfl | rfl | rfl | rfl | rfl | rfl | rfl | rfl <;> first | exact stable_is _
  · refine steps_cons (fun a w hk hn => ?_) ?_
    · have h0 : a.eval (.tmp 0) = .pointer (some ⟨l, 0, none⟩) := hn.1
      clear hn
      refine wants_plain rfl ?_
      exact grown_move (.tmp 0) rfl h0
    refine steps_cons (fun a w hk hn => ?_) ?_
    · have h6 : a.eval (.tmp 6) = .pointer (some ⟨l, 0, none⟩) := hn.1
      clear hn
      refine wants_plain rfl ?_
      refine grown_run (v := .pointer (some ⟨l, 0, none⟩)) ?_ (Kp.refl _ _) rfl
      obtain ⟨ρ, hρ, hc, hf, hg⟩ := eval_is a
      rw [hρ] at h6 ⊢
      simp [go_sem, h6]
    refine steps_cons (fun a w hk hn => ?_) ?_
    · have h7 : a.eval (.tmp 7) = .pointer (some ⟨l, 0, none⟩) := hn.1
      clear hn
      refine wants_plain rfl ?_
      refine grown_run (v := .pointer (some ⟨l, 1, none⟩)) ?_ (Kp.refl _ _) rfl
      obtain ⟨ρ, hρ, hc, hf, hg⟩ := eval_is a
      rw [hρ] at h7 ⊢
      simp [go_sem, h7]
    refine steps_cons (fun a w hk hn => ?_) ?_
    · have h8 : a.eval (.tmp 8) = .pointer (some ⟨l, 1, none⟩) := hn.1
      clear hn
      refine wants_plain rfl ?_
      refine grown_run (v := .pointer (some ⟨s, 0, none⟩)) ?_ (Kp.refl _ _) rfl
      have hcell : w.cell? ⟨l, 1, none⟩ = some (.pointer (some ⟨s, 0, none⟩)) := by rw [cell_of_row w l 1 _ _ _ (HAt.out w hk)]; rfl
      obtain ⟨ρ, hρ, hc, hf, hg⟩ := eval_is a
      rw [hρ] at h8 ⊢
      simp [go_sem, h8, hcell]
    refine steps_cons (fun a w hk hn => ?_) ?_
    · have h1 : a.eval (.tmp 1) = .slice ax nx cx := hn.1
      clear hn
      refine wants_plain rfl ?_
      exact grown_move (.tmp 1) rfl h1
    refine steps_cons (fun a w hk hn => ?_) ?_
    · have h10 : a.eval (.tmp 10) = .slice ax nx cx := hn.1
      clear hn
      refine wants_plain rfl ?_
      refine grown_run (v := .string (strOfNums x)) ?_ (Kp.refl _ _) rfl
      obtain ⟨ρ, hρ, hc, hf, hg⟩ := eval_is a
      rw [hρ] at h10 ⊢
      simp [go_sem, h10, HCv.out w hk]
    refine steps_cons (fun a w hk hn => ?_) ?_
    · have h9 : a.eval (.tmp 9) = .pointer (some ⟨s, 0, none⟩) := hn.1
      have h11 : a.eval (.tmp 11) = .string (strOfNums x) := hn.2.1
      clear hn
      refine wants_plain rfl ?_
      refine grown_call (f := 63) rfl Tryz.func63 (by kernel_rfl) (by kernel_rfl) ?_
      simp only [List.map_toArray, List.map_cons, List.map_nil, h9, h11]
      refine (find_any (HSh.out w hk) x HB.out HL.out b HBb.out c HCc.out).mono ?_
      rintro e w' ⟨rfl, rfl⟩
      exact ⟨_, rfl, Kp.refl _ _, rfl⟩
    refine steps_cons (fun a w hk hn => ?_) ?_
    · have h12 : a.eval (.tmp 12) = .tuple #[.int .i64 c, .bool b] := hn.1
      clear hn
      refine wants_plain rfl ?_
      refine grown_run (v := .int .i64 c) ?_ (Kp.refl _ _) rfl
      obtain ⟨ρ, hρ, hc, hf, hg⟩ := eval_is a
      rw [hρ] at h12 ⊢
      simp [go_sem, h12]
    refine steps_cons (fun a w hk hn => ?_) ?_
    · have h12 : a.eval (.tmp 12) = .tuple #[.int .i64 c, .bool b] := hn.1
      clear hn
      refine wants_plain rfl ?_
      refine grown_run (v := .bool b) ?_ (Kp.refl _ _) rfl
      obtain ⟨ρ, hρ, hc, hf, hg⟩ := eval_is a
      rw [hρ] at h12 ⊢
      simp [go_sem, h12]
    refine steps_cons (fun a w hk hn => ?_) ?_
    · have h13 : a.eval (.tmp 13) = .int .i64 c := hn.1
      clear hn
      refine wants_plain rfl ?_
      exact grown_assign (.tmp 13) rfl h13
    refine steps_cons (fun a w hk hn => ?_) ?_
    · have h14 : a.eval (.tmp 14) = .bool b := hn.1
      clear hn
      refine wants_plain rfl ?_
      exact grown_assign (.tmp 14) rfl h14
    exact trivial
  intro W1 hkW1
  rintro _ rfl
  rintro _ rfl
  rintro _ rfl
  rintro _ rfl
  rintro _ rfl
  rintro _ rfl
  rintro _ rfl
  rintro _ rfl
  rintro _ rfl
  rintro _ rfl
  rintro _ rfl
  refine fin_nil ?_
  simp only [Act.put, List.set_cons_zero, List.set_cons_succ, List.setIfInBounds_toArray]
  go_wp2_with fail
  go_ret2
  exact ⟨rfl, (kp_drew w).trans hkW1⟩
end
end Go.Proofs.YteabdojjllfcpaaGreat

/-
  The contracts of package ledger: gathered, Open.
-/
namespace Go.Proofs.YteabdojjllfcpaaGreat
open Go.RowKit
open Go.Proofs
set_option linter.unusedVariables false
theorem tkbU_short (bad : Bool) (bs : List Int) (n : Nat) (hB : Bs bs) : (tkb bad bs n).1.length ≤ n := by
  unfold tkb
  split
  · simp
  · rename_i h
    have h2 : val (tk bad bs 2).1 ≤ (n : Int) := by omega
    have h0 := (val_bd _ (tk_bs1 (bad := bad) (n := 2) hB)).1
    obtain ⟨k, hk⟩ := Int.eq_ofNat_of_zero_le h0
    rw [hk] at h2 ⊢
    exact Nat.le_trans tk_len1 (by omega)
theorem lists_big {w : World} {base : Nat} {v : Value} {l : List (Value × List Int)} (h : RowS w base v l) (hl : l.length ≤ 1000000) : Lists w v l := by
  rcases h.1.2 with ⟨rfl, h0⟩ | ⟨g, cap, cur, rfl, _⟩
  · have : l = [] := List.eq_nil_of_length_eq_zero (by simpa using h0)
    subst this
    exact lists_nil w none 0
  · refine ⟨some ⟨g, 0, none⟩, cap, by simp, by omega, fun i hi => ⟨g, 0, rfl, ?_, (h.2 _ (List.getElem_mem hi)).1, (h.2 _ (List.getElem_mem hi)).2.1⟩⟩
    have := h.1.cells (g := g) rfl i l[i].1 (by simp [List.getElem?_eq_getElem hi])
    simpa [Addr.add_lit] using this
theorem itsU_bs : ∀ (n : Nat) (b : List Int) (xs : List (List Int)), Bs b → itsU n b = some xs → (∀ x ∈ xs, Bs x ∧ x.length ≤ 65535) ∧ xs.length * 2 ≤ b.length
  | 0, b, xs, hB, h => by
    unfold itsU at h
    split at h
    · cases h; simp
    · cases h
  | n + 1, b, xs, hB, h => by
    unfold itsU at h
    split at h
    · cases h
    · rename_i hbad
      have hbad : (tkb false b 65535).2.1 = false := by simpa using hbad
      cases h2 : itsU n (tkb false b 65535).2.2 with
      | none => rw [h2] at h; cases h
      | some ys =>
        rw [h2] at h
        simp only [Option.map_some, Option.some.injEq] at h
        obtain ⟨i1, i2⟩ := itsU_bs n _ ys (tkb_bs2 hB) h2
        have h3 := tkb_less hbad
        refine ⟨fun x hx => ?_, by rw [← h, List.length_cons]; omega⟩
        rw [← h] at hx
        rcases List.mem_cons.1 hx with rfl | hx
        · exact ⟨tkb_bs1 hB, tkbU_short false b 65535 hB⟩
        · exact i1 x hx
theorem unlU_bs {r : List Int} {xs : List (List Int)} (hB : Bs r) (h : unlU r = some xs) : (∀ x ∈ xs, Bs x ∧ x.length ≤ 65535) ∧ xs.length * 2 ≤ r.length := by
  unfold unlU at h
  split at h
  · cases h
  · split at h
    · cases h
    · obtain ⟨h1, h2⟩ := itsU_bs _ _ xs (fun b hb => hB b (List.mem_of_mem_drop hb)) h
      rw [List.length_drop] at h2
      exact ⟨h1, by omega⟩
theorem gatU_append (l a b : List (List Int)) : gatU l (a ++ b) = (gatU l a).bind (fun m => gatU m b) := by
  induction a generalizing l with
  | nil => rfl
  | cons x a ih =>
    simp only [List.cons_append, gatU]
    split
    · rfl
    · split
      · exact ih _
      · rfl
theorem gatU_none {rs : List (List Int)} {k : Nat} (h : gatU [] (rs.take k) = none) : gatU [] rs = none := by
  have := gatU_append [] (rs.take k) (rs.drop k)
  rw [List.take_append_drop, h] at this
  exact this
theorem gatU_succ {rs l : List (List Int)} {k : Nat} (hk : k < rs.length) (h : gatU [] (rs.take k) = some l) : gatU [] (rs.take (k + 1)) = match unlU rs[k] with
    | none => none
    | some xs => if (l ++ xs).Nodup then some (l ++ xs) else none := by
  rw [List.take_succ_eq_append_getElem hk, gatU_snoc, h]
  simp only [Option.bind_some, gatU]
  cases unlU rs[k] <;> rfl
/-- what records' lengths come to. -/
def lenU (rs : List (List Int)) : Nat := (rs.map List.length).sum
theorem lenU_take (rs : List (List Int)) (k : Nat) : lenU (rs.take k) ≤ lenU rs := by
  have := congrArg lenU (List.take_append_drop k rs)
  unfold lenU at this ⊢
  rw [List.map_append, List.sum_append] at this
  omega
theorem lenU_succ {rs : List (List Int)} {k : Nat} (hk : k < rs.length) : lenU (rs.take (k + 1)) = lenU (rs.take k) + rs[k].length := by
  rw [List.take_succ_eq_append_getElem hk]
  unfold lenU
  rw [List.map_append, List.sum_append]
  simp
set_option maxRecDepth 100000 in
set_option maxHeartbeats 8000000 in
theorem gathered_any (v : Value) (lv : List (Value × List Int)) (rs : List (List Int)) (hrs : lv.map (·.2) = rs) (w : World) (hL : Lists w v lv) (hB : ∀ r ∈ rs, Bs r) (hl : lenU rs ≤ 100000) (hn : rs.length ≤ 200000) (ok : Bool) (hok : ok = (redU rs).isSome) :
    Calls Tryz.prog 33 #[v] w fun e w' => ∃ p, e = .returned (.tuple #[p, .bool ok]) ∧ Kp [] w w' ∧ ∀ its, redU rs = some its → ∃ s F, p = .pointer (some ⟨s, 0, none⟩) ∧ Sh w' s its F ∧ ∀ i, F i → w.heap.size ≤ i ∧ i < w'.heap.size := by
  obtain ⟨al, cl, rfl, -, hcell⟩ := hL
  obtain ⟨N, hN⟩ : ∃ N, N = lv.length := ⟨_, rfl⟩
  have hNr : rs.length = N := by rw [← hrs, hN]; simp
  have hget : ∀ k (hk : k < N), ∃ (hk2 : k < rs.length), ∃ b off, al = some ⟨b, off, none⟩ ∧ ∃ u, w.cell? ⟨b, off + k, none⟩ = some u ∧ Sl w u rs[k] := fun k hk => by
    have hk1 : k < lv.length := by omega
    obtain ⟨b, off, e, h1, h2, h3⟩ := hcell k hk1
    have hk2 : k < rs.length := by omega
    have e2 : rs[k] = lv[k].2 := by simp [← hrs]
    exact ⟨hk2, b, off, e, lv[k].1, h1, by rw [e2]; exact h2⟩
  rw [← hN]
  have HGet := hide hget
  have HB := hide hB
  have HL := hide hl
  have HOk := hide hok
  have HNr := hide hNr
  have hN2 : N ≤ 200000 := by omega
  clear hcell hget hB hrs hN hn hl hok hNr
  go_enter Tryz.func33, Tryz.ntmps33
  go_wp2_with fail
  refine (newShelf_any w).mono ?_
  rintro ee w1 ⟨s2, F1, rfl, S1, hF1, K1⟩
  have HS1 := hide S1
  have HF1 := hide hF1
  have HK1 := hide K1
  clear S1 hF1 K1
  go_wp2_with fail
  go_loopw [16] (fun i wr => ∃ k : Nat, k ≤ N ∧ i = .int .i64 k ∧ ∃ its F, gatU [] (rs.take k) = some its ∧ Sh wr s2 its F ∧ its.length * 2 ≤ lenU (rs.take k) ∧ (∀ i, F i → w.heap.size ≤ i ∧ i < wr.heap.size) ∧ Kp [] w wr) (fun i _ => N - (intOf i).toNat)
  case atStart => exact ⟨0, by omega, rfl, [], F1, rfl, HS1.out, by simp, HF1.out, HK1.out⟩
  case round =>
    obtain ⟨k, hk, rfl, its, F, hg, Sf, hli, hF, K⟩ := hrel
    have HG := hide hg
    have HSf := hide Sf
    have HLi := hide hli
    have HF := hide hF
    have HK := hide K
    clear hg Sf hli hF HS1 HF1 HK1
    by_cases hlt : k < N
    · have hlt' : (k : Int) < (N : Int) := by omega
      obtain ⟨hkx, b, off, rfl, u, hu, hSu⟩ := HGet.out k hlt
      have hcu := K.cell hu (by simp)
      have hSu2 := hSu.kept K (by simp)
      have hsucc := gatU_succ hkx HG.out
      have hlsucc := lenU_succ hkx
      have hltk := lenU_take rs (k + 1)
      obtain ⟨x, hx⟩ : ∃ x, x = rs[k] := ⟨_, rfl⟩
      have hBx : Bs x := by rw [hx]; exact HB.out _ (List.getElem_mem hkx)
      rw [← hx] at hSu2 hsucc hlsucc
      obtain ⟨ax, cx, hux, -⟩ := id hSu2
      obtain ⟨nx, hnx⟩ : ∃ n, n = x.length := ⟨_, rfl⟩
      rw [← hnx] at hux
      rw [hux] at hcu hSu2
      have hxl : x.length ≤ 100000 := by have := HL.out; omega
      obtain ⟨okr, hokr⟩ : ∃ o, o = (unlU x).isSome := ⟨_, rfl⟩
      have HUn := hide (unlaid_any _ x wr hSu2 hBx (by omega) okr hokr)
      have HSucc := hide hsucc
      have HLs := hide hlsucc
      have HBx := hide hBx
      have hbnd : its.length * 2 + x.length ≤ 100000 := by have := HLi.out; have := HL.out; omega
      have HLt := hide hltk
      cases hun : unlU x with
      | none =>
        rw [hun] at hokr
        have hokr2 : okr = false := by rw [hokr]; rfl
        clear hokr
        subst hokr2
        have hred : redU rs = none := by
          unfold redU
          have : gatU [] (rs.take (k + 1)) = none := by rw [HSucc.out, hun]
          rw [gatU_none this]
        have hok2 : ok = false := by rw [HOk.out, hred]; rfl
        subst hok2
        have HRed := hide hred
        clear hSu hSu2 hu hux hnx hx hsucc hlsucc hltk hBx hun hred K
        go_wp2_with fail
        refine HUn.out.mono ?_
        rintro ee w2 ⟨a2, m2, c2, rfl, K2, -⟩
        have HK2 := hide (HK.out.trans K2)
        clear HUn K2
        go_wp2_with fail
        go_ret2
        exact ⟨_, rfl, HK2.out, fun z hz => by rw [HRed.out] at hz; cases hz⟩
      | some xs =>
        rw [hun] at hokr
        have hokr2 : okr = true := by rw [hokr]; rfl
        clear hokr
        subst hokr2
        obtain ⟨hxB, hx2⟩ := unlU_bs hBx hun
        have HUn2 := hide hun
        have HxB := hide hxB
        have hxs5 : xs.length ≤ 50000 := by omega
        clear hSu hSu2 hu hux hnx hx hsucc hlsucc hltk hBx hxB K hun
        go_wp2_with fail
        refine HUn.out.mono ?_
        rintro ee w2 ⟨a2, m2, c2, rfl, K2, hrow⟩
        obtain ⟨lx, P2, hlx⟩ := hrow xs HUn2.out
        have hm2 : m2 = xs.length := by have := P2.1.1.len; rw [List.length_map] at this; rw [this, ← hlx]; simp
        have HP2 := hide P2
        have HLx := hide hlx
        have HM2 := hide hm2
        have HSf2 := hide (HSf.out.kept K2 (by simp))
        have HK2 := hide (HK.out.trans K2)
        have HKr := hide K2
        have hm3 : m2 ≤ 50000 := by omega
        clear HUn K2 hrow P2 hlx hm2
        go_wp2_with fail
        obtain ⟨bN, hbN⟩ : ∃ n, n = wr.heap.size := ⟨_, rfl⟩
        have HSz : Hid (bN ≤ w2.heap.size) := hide (by rw [hbN]; exact HKr.out.size)
        rw [← hbN] at HF HP2
        clear hbN HKr
        go_loopw [29] (fun i wr => ∃ t : Nat, t ≤ m2 ∧ i = .int .i64 t ∧ (its ++ xs.take t).Nodup ∧ ∃ F', Sh wr s2 (its ++ xs.take t) F' ∧ Stp F w2 wr F') (fun i _ => m2 - (intOf i).toNat)
        case atStart => exact ⟨0, by omega, rfl, by simpa using HSf2.out.nd, F, by simpa using HSf2.out, Stp.refl _ _⟩
        case round =>
          obtain ⟨t, ht, rfl, hnd, F', Sq, Tq⟩ := hrel
          have HSq := hide Sq
          have HTq := hide Tq
          have HND := hide hnd
          clear Sq hnd
          have hF2 : ∀ i, F i → i < w2.heap.size := fun i hi => Nat.lt_of_lt_of_le (HF.out i hi).2 HSz.out
          have hFq : ∀ i, F' i → w.heap.size ≤ i ∧ i < wr.heap.size := fun i hi => by
            have h0 := HK2.out.size
            have h1 := Tq.size
            rcases Tq.2 i hi with h | h
            · have := HF.out i h; have := hF2 i h; omega
            · omega
          have HFq := hide hFq
          by_cases htl : t < m2
          · have htl' : (t : Int) < (m2 : Int) := by omega
            have htx : t < xs.length := by have := HM2.out; omega
            have htx2 : t < lx.length := by have h := congrArg List.length HLx.out; rw [List.length_map] at h; omega
            obtain ⟨T, hT, kT⟩ := Tq.kp
            have hlow : ∀ i ∈ T, i < bN := fun i hi => (HF.out i (hT i hi)).2
            have P3 := HP2.out.kept kT hlow
            have hL3 : Lists wr (.slice a2 m2 c2) lx := lists_big P3.1 (by have h := congrArg List.length HLx.out; rw [List.length_map] at h; omega)
            obtain ⟨a3, c3, e3, -, hc3⟩ := hL3
            obtain ⟨b3, o3, e4, hcc, hSc, hBc⟩ := hc3 t htx2
            injection e3 with e5 e6 e7
            subst e7
            rw [← e5] at e4
            subst e4
            have ey : lx[t].2 = xs[t] := by simp [← HLx.out]
            rw [ey] at hSc hBc
            obtain ⟨y, hy⟩ : ∃ y, y = xs[t] := ⟨_, rfl⟩
            rw [← hy] at hSc hBc
            have hyl : y.length ≤ 65535 := by rw [hy]; exact (HxB.out _ (List.getElem_mem htx)).2
            have hcv := hSc.conv (P := Tryz.prog) 28 9 5 Tryz.underlying28 Tryz.underlying5 Tryz.underlying9
            have htk : xs.take (t + 1) = xs.take t ++ [y] := by rw [List.take_succ_eq_append_getElem htx, ← hy]
            have HTK := hide htk
            have HY := hide hy
            have hll : (its ++ xs.take t).length < 100000 := by rw [List.length_append, List.length_take]; omega
            have HP := hide (put_any HSq.out (fun i hi => (hFq i hi).2) y hBc hyl hll)
            obtain ⟨ay, cy, hyv, -⟩ := id hSc
            obtain ⟨ny, hny⟩ : ∃ n, n = y.length := ⟨_, rfl⟩
            rw [← hny] at hyv
            rw [hyv] at hcc hcv
            clear e5 e6 hc3 hSc hBc hyv hny hy htk ey hll P3 hT kT hlow
            by_cases hin : y ∈ its ++ xs.take t
            · have hd : decide (y ∈ its ++ xs.take t) = true := decide_eq_true hin
              rw [hd] at HP
              have hred : redU rs = none := by
                unfold redU
                have h5 : gatU [] (rs.take (k + 1)) = none := by
                  rw [HSucc.out, HUn2.out]
                  simp only
                  rw [if_neg]
                  intro hnd2
                  have e : its ++ xs = (its ++ xs.take t) ++ xs.drop t := by rw [List.append_assoc, List.take_append_drop]
                  rw [e] at hnd2
                  refine (List.nodup_append.1 hnd2).2.2 y hin y ?_ rfl
                  rw [List.mem_iff_getElem]
                  exact ⟨0, by simp; omega, by simp [HY.out]⟩
                rw [gatU_none h5]
              have hok2 : ok = false := by rw [HOk.out, hred]; rfl
              subst hok2
              have HRed := hide hred
              clear hred hin hd Tq hFq hF2
              go_wp2_with fail
              refine HP.out.mono ?_
              rintro ee w4 ⟨rfl, F4, S4, T4⟩
              have HK4 : Hid (Kp [] w w4) := (HTq.out.trans T4).base HK2.out (fun i hi => (HF.out i hi).1)
              clear HP S4 T4
              go_wp2_with fail
              go_ret2
              exact ⟨_, rfl, HK4.out, fun z hz => by rw [HRed.out] at hz; cases hz⟩
            · have hd : decide (y ∈ its ++ xs.take t) = false := decide_eq_false hin
              rw [hd, insU_new hin] at HP
              have HIn := hide hin
              clear hin hd Tq hFq hF2
              go_wp2_with fail
              refine HP.out.mono ?_
              rintro ee w4 ⟨rfl, F4, S4, T4⟩
              have HS4 := hide S4
              have HT4 := hide T4
              clear HP S4 T4 hcc hcv
              go_wp2_with fail
              go_roundw
              case rel =>
                refine ⟨t + 1, by omega, by go_num, ?_, F4, ?_, HTq.out.trans HT4.out⟩
                · have := HS4.out.nd; rw [HTK.out, ← List.append_assoc]; exact this
                · rw [HTK.out, ← List.append_assoc]; exact HS4.out
              case measure => simp [intOf]; omega
          · have htm : t = m2 := by omega
            have hnlt : ¬ (t : Int) < (m2 : Int) := by omega
            have e : xs.take t = xs := List.take_of_length_le (by have := HM2.out; omega)
            rw [e] at HSq HND
            have hw1 : IntKind.i64.wrap ((k : Int) + 1) = (k : Int) + 1 := by simp [IntKind.wrap, IntKind.signed, IntKind.bits]; omega
            clear htm e hF2
            go_wp2_with fail
            go_roundw
            case rel =>
              refine ⟨k + 1, by omega, by go_num, its ++ xs, F', ?_, HSq.out, ?_, HFq.out, HTq.out.base HK2.out (fun i hi => (HF.out i hi).1)⟩
              · rw [HSucc.out, HUn2.out]
                simp only
                rw [if_pos HND.out]
              · rw [HLs.out, List.length_append]; have := HLi.out; omega
            case measure => simp [intOf]; omega
    · have hkn : k = N := by omega
      have hnlt : ¬ (k : Int) < (N : Int) := by omega
      have e : rs.take k = rs := List.take_of_length_le (by have := HNr.out; omega)
      rw [e] at HG
      have HZ := hide (ssize_any HSf.out _ rfl)
      obtain ⟨n, hn⟩ : ∃ n, n = its.length := ⟨_, rfl⟩
      rw [← hn] at HZ
      have hr : redU rs = if n ≤ 256 then some its else none := by unfold redU; rw [HG.out, hn]
      have hok3 : ok = decide ((n : Int) ≤ 256) := by
        rw [HOk.out, hr]
        by_cases h : n ≤ 256
        · rw [if_pos h, decide_eq_true (by omega)]; rfl
        · rw [if_neg h, decide_eq_false (by omega)]; rfl
      have HRr := hide hr
      have Hok3 := hide hok3
      clear K hkn e hn hr hok3
      go_wp2_with fail
      refine HZ.out.mono ?_
      rintro ee w2 ⟨rfl, hw⟩
      subst w2
      clear HZ
      go_wp2_with fail
      go_ret2
      refine ⟨_, by rw [Hok3.out]; rfl, HK.out, fun z hz => ?_⟩
      rw [HRr.out] at hz
      split at hz
      · cases hz; exact ⟨s2, F, rfl, HSf.out, HF.out⟩
      · cases hz
section
variable {w0 w : World} {pd pk n at_ : Nat} {dd dk dk' dd' : Dk} {f : Fps}
set_option maxRecDepth 100000 in
set_option maxHeartbeats 4000000 in
theorem uopen_ok (vs : Value) (seed : List Int) (hS : Sl w vs seed) (hsB : Bs seed) (hl : seed.length = 32) (hsk : ∀ k, vs.ownBlock = some k → ¬ f.tot k) (hf : f.Ok w0 w) (hD : Dx w0 w pd dd (f 5)) (dn : dd.down = false) (da : dd.arm ≤ 0) (hK : Dx w0 w pk dk (f 6)) (kd : dk.down = false) (ka : dk.arm ≤ 0) {b : List Int} (hb : dk.bs = b) (hn : n ≤ 16) (ho : opnP b = (keyL n, at_, true)) (hdk : dk.opn = dk') {bd : List Int} (hbd : dd.bs = bd) {rs : List (List Int)} {at2 : Nat} (hop : opnP bd = (rs, at2, true)) (hdd : dd.opn = dd') {its : List (List Int)} (hits : gatU [] rs = some its) (h256 : its.length ≤ 256) (hrB : ∀ r ∈ rs, Bs r) (hlr : lenU rs ≤ 100000) (hrn : rs.length ≤ 200000) :
    Calls Tryz.prog 9 #[.pointer (some ⟨pd, 0, none⟩), .pointer (some ⟨pk, 0, none⟩), vs] w fun e w' => ∃ l, e = .returned (.tuple #[.pointer (some ⟨l, 0, none⟩), .int .i64 0]) ∧ ∃ f', Lg w0 w' l pd pk ⟨its, n, seed, none, dd', dk', rs.length, n⟩ f' ∧ LSt w f w' f' := by
  have HS := hide hS
  obtain ⟨av, cv, hvs, -⟩ := hS
  rw [hl] at hvs
  have HK := hide (bf_open hK kd ka hb hn ho hdk)
  have HD := hide hD
  have HF := hide hf
  have Hdn := hide dn
  have Hda := hide da
  have Hbd := hide hbd
  have HOp := hide hop
  have Hdd := hide hdd
  have HIt := hide hits
  have H256 := hide h256
  have HrB := hide hrB
  have HLr := hide hlr
  have HRn := hide hrn
  have HSb := hide hsB
  have HSl := hide hl
  have HSk := hide hsk
  have HNk := hide hn
  subst hvs
  clear hK kd ka hb hn ho hD hf dn da hbd hop hits h256 hrB hlr hrn hsB hsk hl hdk hdd
  go_enter Tryz.func9, Tryz.ntmps9
  go_wp2_with fail
  refine HK.out.mono ?_
  rintro ee w1 ⟨q, rfl, F6, B1, T1⟩
  have ok1 := HF.out.upd T1
  obtain ⟨T, hT, k1⟩ := T1.kp
  obtain ⟨v, N1, hv⟩ := HD.out.kept k1 ok1.kp (HF.out.apart (a := 6) (b := 5) (by decide) hT)
  have HS1 := hide (HS.out.kept k1 (fun i hi hm => HSk.out i hi ⟨6, hT i hm⟩))
  have HJ := hide (open_ok N1 Hdn.out Hda.out Hbd.out HOp.out Hdd.out)
  have HB1 := hide B1
  have HT1 := hide T1
  have HO1 := hide ok1
  have Hv := hide hv
  clear HK B1 T1 ok1 hT k1 N1 hv
  go_wp2_with fail
  refine HJ.out.mono ?_
  rintro ee w2 ⟨j, v2, al, cl, lv, rfl, J2, hj2, D2, P2, hl2⟩
  have t5 : Stp (f 5) w1 w2 (fun i => grF (f 5) v2 i ∨ i = j) := by
    have t := D2.stp Hv.out J2.nw.rlt
    refine ⟨t.1, fun i hi => ?_⟩
    rcases hi with hi | rfl
    · exact t.2 i hi
    · exact .inr ⟨hj2, J2.jr.lt⟩
  have e5 : f.upd 6 F6 5 = f 5 := upd_ne (by decide)
  have ok2 : ((f.upd 6 F6).upd 5 (fun i => grF (f 5) v2 i ∨ i = j)).Ok w0 w2 := HO1.out.upd (by rw [e5]; exact t5)
  obtain ⟨T2, hT2, k2⟩ := t5.kp
  have e6 : f.upd 6 F6 6 = F6 := upd_eq
  have B2 := HB1.out.kept k2 ok2.kp (by have := HO1.out.apart (a := 5) (b := 6) (by decide) (S := T2) (by rw [e5]; exact hT2); rw [e6] at this; exact this)
  have HS2 : Hid (Sl w2 (.slice av 32 cv) seed) := hide (HS1.out.kept k2 (fun i hi hm => HSk.out i hi ⟨5, hT2 i hm⟩))
  have hml : rs.length = lv.length := by rw [← hl2]; simp
  have HG := hide (gathered_any (.slice al rs.length cl) lv _ hl2 w2 (lists_big P2.parts.rowS (by have := HRn.out; omega)) HrB.out HLr.out HRn.out true (by unfold redU; rw [HIt.out]; simp only; rw [if_pos H256.out]; rfl))
  have HJ2 := hide J2
  have HB2 := hide B2
  have HO2 := hide ok2
  have HT5 := hide t5
  obtain ⟨nr, hnr⟩ : ∃ n, n = rs.length := ⟨_, rfl⟩
  rw [← hnr] at HG ⊢
  have HNR := hide hnr
  clear HJ J2 hj2 D2 P2 hl2 t5 e5 e6 ok2 hT2 k2 B2 hml hnr
  go_wp2_with fail
  refine HG.out.mono ?_
  rintro ee w3 ⟨p3, rfl, K3, hsh⟩
  obtain ⟨s, F4, rfl, S3, hF4⟩ := hsh its (by unfold redU; rw [HIt.out]; simp only; rw [if_pos H256.out])
  have HC := hide (dclone_any (.slice av 32 cv) seed w3 (HS2.out.kept K3 (by simp)) (by have := HSl.out; omega))
  have HK3 := hide K3
  have HS3 := hide S3
  have HF4 := hide hF4
  clear HG K3 hsh S3 hF4
  go_wp2_with fail
  refine HC.out.mono ?_
  rintro ee w4 ⟨a4, m4, c4, rfl, R4, K4⟩
  have HR4 := hide R4
  have HK4 := hide K4
  clear HC R4 K4
  go_wp2_with fail
  go_ret2
  have ka : Kp [] w4 (w4.alloc (.cells #[.func (.func 34) #[.pointer (some ⟨j, 0, none⟩)] #[], .pointer (some ⟨s, 0, none⟩), .pointer (some ⟨q, 0, none⟩), .slice a4 m4 c4, .pointer none] 80)) := (Kp.refl [] w4).alloc _
  have K35 := HK4.out.trans ka
  have K25 := HK3.out.trans K35
  have s0 := HF.out.kp.size
  have s1 := HT1.out.size
  have s2 := HT5.out.size
  have s3 := HK3.out.size
  have s4 := HK4.out.size
  have h5 : ∀ i, (grF (f 5) v2 i ∨ i = j) → (f 5 i ∧ i < w.heap.size) ∨ (w1.heap.size ≤ i ∧ i < w2.heap.size) := fun i hi => (HT5.out.2 i hi).imp (fun h => ⟨h, (HF.out.rng 5 i h).2⟩) id
  have h6 : ∀ i, F6 i → (f 6 i ∧ i < w.heap.size) ∨ (w.heap.size ≤ i ∧ i < w1.heap.size) := fun i hi => (HT1.out.2 i hi).imp (fun h => ⟨h, (HF.out.rng 6 i h).2⟩) id
  have h56 : ∀ i, f 5 i → f 6 i → False := fun i h1 h2 => by have := HF.out.ap 5 6 i h1 h2; omega
  have h2 : ∀ i, (Value.slice a4 m4 c4).ownBlock = some i → w3.heap.size ≤ i ∧ i < w4.heap.size := fun i hi => ⟨HR4.out.own i hi, HR4.out.lt hi⟩
  have h4 := HF4.out
  have hk0 : Kp [] w0 (w4.alloc (.cells #[.func (.func 34) #[.pointer (some ⟨j, 0, none⟩)] #[], .pointer (some ⟨s, 0, none⟩), .pointer (some ⟨q, 0, none⟩), .slice a4 m4 c4, .pointer none] 80)) := HO2.out.kp.trans K25
  let f' : Fps := fun a i => (a = 1 ∧ i = w4.heap.size) ∨ (a = 2 ∧ (Value.slice a4 m4 c4).ownBlock = some i) ∨ (a = 4 ∧ F4 i) ∨ (a = 5 ∧ (grF (f 5) v2 i ∨ i = j)) ∨ (a = 6 ∧ F6 i)
  have hr0 : ∀ i, f 5 i ∨ f 6 i → w0.heap.size ≤ i ∧ i < w.heap.size := fun i hi => hi.elim (HF.out.rng 5 i) (HF.out.rng 6 i)
  have rng : ∀ a i, f' a i → w0.heap.size ≤ i ∧ i < w4.heap.size + 1 := fun a i hi => by
    rcases hi with ⟨-, rfl⟩ | ⟨-, h⟩ | ⟨-, h⟩ | ⟨-, h⟩ | ⟨-, h⟩
    · omega
    · have := h2 i h; omega
    · have := h4 i h; omega
    · rcases h5 i h with ⟨h, _⟩ | h
      · have := hr0 i (.inl h); omega
      · omega
    · rcases h6 i h with ⟨h, _⟩ | h
      · have := hr0 i (.inr h); omega
      · omega
  have pos : ∀ a i, f' a i → (a = 1 ∧ w4.heap.size ≤ i) ∨ (a = 2 ∧ w3.heap.size ≤ i ∧ i < w4.heap.size) ∨ (a = 4 ∧ w2.heap.size ≤ i ∧ i < w3.heap.size) ∨ (a = 5 ∧ (f 5 i ∧ i < w.heap.size ∨ w1.heap.size ≤ i ∧ i < w2.heap.size)) ∨ (a = 6 ∧ (f 6 i ∧ i < w.heap.size ∨ w.heap.size ≤ i ∧ i < w1.heap.size)) := fun a i hi => by
    rcases hi with ⟨ha, rfl⟩ | ⟨ha, h⟩ | ⟨ha, h⟩ | ⟨ha, h⟩ | ⟨ha, h⟩
    · exact .inl ⟨ha, Nat.le_refl _⟩
    · exact .inr (.inl ⟨ha, h2 i h⟩)
    · exact .inr (.inr (.inl ⟨ha, h4 i h⟩))
    · exact .inr (.inr (.inr (.inl ⟨ha, h5 i h⟩)))
    · exact .inr (.inr (.inr (.inr ⟨ha, h6 i h⟩)))
  have ap : f'.Apart := fun a b i ha hb => by
    rcases pos a i ha with ⟨rfl, p⟩ | ⟨rfl, p⟩ | ⟨rfl, p⟩ | ⟨rfl, p | p⟩ | ⟨rfl, p | p⟩ <;> rcases pos b i hb with ⟨rfl, q⟩ | ⟨rfl, q⟩ | ⟨rfl, q⟩ | ⟨rfl, q | q⟩ | ⟨rfl, q | q⟩ <;> first | rfl | (exfalso; omega) | exact (h56 i p.1 q.1).elim | exact (h56 i q.1 p.1).elim
  have e1 : f' 5 = fun i => grF (f 5) v2 i ∨ i = j := funext fun i => by simp [f']
  have e2 : f' 6 = F6 := funext fun i => by simp [f']
  have e3 : f' 4 = F4 := funext fun i => by simp [f']
  refine ⟨w4.heap.size, rfl, f', ⟨j, s, q, .slice a4 m4 c4, .pointer none, ⟨hk0, ap, fun a i hi => by have := rng a i hi; simp; omega⟩, heap_alloc_new w4 _, .inl ⟨rfl, rfl⟩, HR4.out.sl.kept ka (by simp), fun k hk => .inr (.inl ⟨rfl, hk⟩), rfl, ?_, ?_, ?_, HSl.out, HSb.out, H256.out, HNk.out⟩, ?_⟩
  · rw [e3]; exact HS3.out.kept K35 (by simp)
  · rw [e1]
    exact ⟨v2, rs.length, Nat.le_refl _, HJ2.out.kept K25 hk0 (by simp) (by simp), .inr rfl, fun i hi => .inl (grF_fp (Hv.out pd (mem_dfp.2 (.inl rfl))) i hi)⟩
  · rw [e2]; exact HB2.out.kept K25 hk0 (by simp)
  · have t6 : Stp f.tot w w1 (fun i => f 5 i ∨ F6 i) := by
      refine ⟨?_, fun i hi => ?_⟩
      · obtain ⟨T, hT, k⟩ := HT1.out.kp
        exact ⟨T, fun i hi => ⟨6, hT i hi⟩, k⟩
      · rcases hi with hi | hi
        · exact .inl ⟨5, hi⟩
        · exact (HT1.out.2 i hi).imp (fun h => ⟨6, h⟩) id
    have t5 : Stp (fun i => f 5 i ∨ F6 i) w1 w2 (fun i => (grF (f 5) v2 i ∨ i = j) ∨ F6 i) := by
      refine ⟨?_, fun i hi => ?_⟩
      · obtain ⟨T, hT, k⟩ := HT5.out.kp
        exact ⟨T, fun i hi => .inl (hT i hi), k⟩
      · rcases hi with hi | hi
        · exact (HT5.out.2 i hi).imp .inl id
        · exact .inl (.inr hi)
    obtain ⟨tk, tn⟩ := (t6.trans t5).trans (Stp.mid K25)
    refine ⟨tk, fun i ⟨a, ha⟩ => ?_⟩
    have hsz : (w4.alloc (.cells #[.func (.func 34) #[.pointer (some ⟨j, 0, none⟩)] #[], .pointer (some ⟨s, 0, none⟩), .pointer (some ⟨q, 0, none⟩), .slice a4 m4 c4, .pointer none] 80)).heap.size = w4.heap.size + 1 := by simp
    rw [hsz] at tn ⊢
    rcases ha with ⟨-, rfl⟩ | ⟨-, h⟩ | ⟨-, h⟩ | ⟨-, h⟩ | ⟨-, h⟩
    · exact .inr ⟨by omega, by omega⟩
    · have := h2 i h; exact .inr ⟨by omega, by omega⟩
    · have := h4 i h; exact .inr ⟨by omega, by omega⟩
    · exact tn i (.inl h)
    · exact tn i (.inr h)
end
end Go.Proofs.YteabdojjllfcpaaGreat
