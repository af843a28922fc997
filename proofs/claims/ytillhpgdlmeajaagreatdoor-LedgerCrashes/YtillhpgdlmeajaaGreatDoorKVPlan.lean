/-
  The contract of the reference ledger's Plan.
-/
import Derived.Test.YtillhpgdlmeajaaGreatDoorKVRead
import Derived.Test.YtillhpgdlmeajaaGreatDoorKJApp
import Derived.Test.YtillhpgdlmeajaaGreatDoorKURow
import Derived.Test.YtillhpgdlmeajaaGreatDoorKSOwner
namespace Go.Proofs.YtillhpgdlmeajaaGreatDoor
open Go.RowKit
open Go.Proofs
set_option linter.unusedVariables false

/-- one more slice behind a row of slices, at a step of a region that draws its order. -/
theorem step_rowv {w3 : World} {ops : Array Oper} {o : Oper} {a : Act} {K : Act → World → Prop} {Q : Exit → Act → World → Prop} {E : Prop} (hgd : o.guard = none) (s x : Operand)
    (ho : o.op = .call { callee := .builtin .append, args := #[s, x], argTypes := #[33, 33] }) (base : Nat) (v : Value) (ys : List Value) (hs : a.eval s = v) (hR : RowV w3 base v ys) (hl : ys.length ≤ 1000000)
    (vx : Value) (hvx : vx.oneCell' = true) (g : Nat) (hx : a.eval x = .slice (some ⟨g, 0, none⟩) 1 1) (hc : w3.cell? ⟨g, 0, none⟩ = some vx) (hbase : base ≤ w3.heap.size)
    (h : ∀ ao m c w', m = ys.length + 1 → RowV w' base (.slice ao m c) (ys ++ [vx]) → RStep w3 v w' (.slice ao m c) → K (a.put o.dst (.slice ao m c)) w') :
    if Region.wanted o (yielded ops a.tmps) = true then Oper.wp Tryz.prog o a w3 K Q else E := by
  have hw : Region.wanted o (yielded ops a.tmps) = true := by simp [Region.wanted, hgd]
  rw [if_pos hw]
  obtain ⟨i0, hi0, hz0, hz1, hz2⟩ := info_parts Tryz.infoSl
  obtain ⟨av, cv, hv⟩ := hR.shape
  obtain ⟨v', w1, hr, hown1, hgrow, _, hat⟩ := run_append_own_at (P := Tryz.prog) w3 base 33 o.type 22 i0 (.slice none 0 0) 1 24 Tryz.underlying33 hi0 hz0 hz1 hz2 rfl (by decide) v ys.length ys hR ⟨g, 0, none⟩ 1 1 [vx] (by simp) (fun j u hu => by
    have hj : j = 0 := by have := (List.getElem?_eq_some_iff.1 hu).1; simpa using this
    subst hj
    simp at hu
    subst hu
    exact hc) (by simp [hvx]) (by unfold maxLen; omega) (by omega) hbase
  have R : RowV w1 base v' (ys ++ [vx]) := by unfold RowV; rw [List.length_append]; exact hown1
  obtain ⟨ao', c', hv'⟩ := R.shape
  subst hv'
  have st : RStep w3 v w1 (.slice ao' (ys ++ [vx]).length c') := ⟨(Kp.refl _ w3).grown hgrow (fun k hk => .inl (by simp [hk])), fun k hk => by
    rcases hat with e | e
    · exact .inl (e ▸ hk)
    · rw [e] at hk; cases hk; exact .inr (Nat.le_refl _)⟩
  have hKK := h ao' _ c' w1 (by simp) R st
  unfold Oper.wp execOp
  simp only [ho, resolve, invoke, builtin, Sem.run_bind, Sem.run_pure, Result.andThen_ok, List.map_toArray, List.map_cons, List.map_nil, hs, hx, hr]
  exact hKK
/-- one more slice behind a row of slices. -/
theorem wpList_rowv1 {base : Nat} {w2 : World} {ops : Array Oper} {rest : List Oper} {o : Oper} {a : Act} {Q : Exit → Act → World → Prop} (hgd : o.guard = none) (s x : Operand)
    (ho : o.op = .call { callee := .builtin .append, args := #[s, x], argTypes := #[33, 33] }) (v : Value) (ys : List Value) (hs : a.eval s = v) (hP : RowV w2 base v ys) (hbase : base ≤ w2.heap.size) (hl : ys.length ≤ 1000000)
    (vx : Value) (hvx : vx.oneCell' = true) (hx : a.eval x = .slice (some ⟨w2.heap.size, 0, none⟩) 1 1)
    (h : ∀ ao m c w', m = ys.length + 1 → RowV w' base (.slice ao m c) (ys ++ [vx]) → RStep w2 v w' (.slice ao m c) → wpList Tryz.prog ops Q rest (a.put o.dst (.slice ao m c)) w') : wpList Tryz.prog ops Q (o :: rest) a (w2.alloc (.cells #[vx] 22)) := by
  have k2 : Kp [] w2 (w2.alloc (.cells #[vx] 22)) := (Kp.refl [] w2).alloc _
  refine wpList_append_rowv hgd s x ho base v ys hs (hP.kept k2 (by simp)) ⟨w2.heap.size, 0, none⟩ 1 [vx] hx ?_ ?_ ?_ ?_ ?_
  · intro j u hu
    exact World.news_of_block (heap_alloc_new w2 _) j u (by simpa using hu)
  · simp [hvx]
  · simp; omega
  · simp; omega
  · intro ao m c w' r st
    exact h ao m c w' (by rw [r.len]; simp) r (st.after k2)
/-- two rows that share no block. -/
def Two (v u : Value) : Prop := ∀ j, v.ownBlock = some j → u.ownBlock ≠ some j
theorem Two.symm {v u : Value} (h : Two v u) : Two u v := fun j h1 h2 => h j h2 h1
theorem Two.step {w w' : World} {v v' u : Value} (h : Two v u) (s : RStep w v w' v') (hu : ∀ j, u.ownBlock = some j → j < w.heap.size) : Two v' u := fun j h1 h2 => by
  rcases s.2 j h1 with h3 | h3
  · exact h j h3 h2
  · have := hu j h2; omega
theorem Two.nil (u : Value) : Two (.slice none 0 0) u := fun j h => by cases h
/-- rows of slices that lay in the world w already. -/
theorem rowS_old {w w' : World} {v : Value} {l : List (Value × List Int)} (hr : RowV w' w.heap.size v (l.map (·.1))) (k : Kp [] w w') (hl : ∀ x ∈ l, Sl w x.1 x.2 ∧ Bs x.2) : RowS w' w.heap.size v l :=
  ⟨hr, fun x hx => ⟨(hl x hx).1.kept k (by simp), (hl x hx).2, fun j h1 h2 => by
    by_cases hb : x.2 = []
    · exact hb
    · have := sl_lt (hl x hx).1 hb h1
      have := hr.own j h2
      omega⟩⟩
/-- all of l are among lx. -/
def Amid (l lx : List (Value × List Int)) : Prop := ∀ y ∈ l, y ∈ lx
/-- Plan behind its first k items: all of them at p2, numbers vn, new ones vf. -/
def PlI (w : World) (p2 : Nat) (la lx : List (Value × List Int)) (its xs : List (List Int)) (k : Nat) (vn vf : Value) (wr : World) : Prop :=
  ∃ (vi : Value) (lA lf : List (Value × List Int)), RLi wr p2 vi ∧ RowV wr w.heap.size vi (lA.map (·.1)) ∧ lA.map (·.2) = allU its (xs.take k) ∧ (∀ y ∈ lA, y ∈ la ∨ y ∈ lx) ∧ RowV wr w.heap.size vf (lf.map (·.1)) ∧ lf.map (·.2) = newU its (xs.take k) ∧ (∀ y ∈ lf, y ∈ lx) ∧ RowI wr w.heap.size vn (nsU its (xs.take k)) ∧ Two vi vf ∧ Two vi vn ∧ Two vf vn ∧ (∀ j, vi.ownBlock = some j → j ≠ p2) ∧ (∀ j, vf.ownBlock = some j → j ≠ p2) ∧ (∀ j, vn.ownBlock = some j → j ≠ p2) ∧ w.heap.size ≤ p2 ∧ p2 < wr.heap.size ∧ Kp [] w wr
set_option maxRecDepth 100000 in
set_option maxHeartbeats 8000000 in
/-- p a ledger whose items read as its; what is told are the items' own slices. -/
theorem rplan_any (p : Nat) (va : Value) (la : List (Value × List Int)) (vx : Value) (lx : List (Value × List Int)) (its xs : List (List Int)) (w : World) (hc : w.cell? ⟨p, 0, none⟩ = some va) (hL : Lc w va la) (hla : la.map (·.2) = its) (hX : Lists w vx lx) (hlx : lx.map (·.2) = xs) (hn : la.length ≤ 10000) (hm : lx.length ≤ 1000) (hnd : its.Nodup) :
    Calls Tryz.prog 32 #[.pointer (some ⟨p, 0, none⟩), vx] w fun e w' => ∃ a1 m1 c1 a2 m2 c2, e = .returned (.tuple #[.slice a1 m1 c1, .slice a2 m2 c2]) ∧ RowI w' w.heap.size (.slice a1 m1 c1) (nsU its xs) ∧ (∃ lf, RowS w' w.heap.size (.slice a2 m2 c2) lf ∧ lf.map (·.2) = newU its xs ∧ Amid lf lx) ∧ Kp [] w w' := by
  have hLs : ∀ y ∈ la, Sl w y.1 y.2 ∧ Bs y.2 := fun y hy => by
    obtain ⟨i, hi, e⟩ := List.mem_iff_getElem.1 hy
    obtain ⟨ao, c, -, -, hcell⟩ := hL.1
    obtain ⟨b, off, -, -, h1, h2⟩ := hcell i hi
    rw [← e]
    exact ⟨h1, h2⟩
  have hXs : ∀ y ∈ lx, Sl w y.1 y.2 ∧ Bs y.2 := fun y hy => by
    obtain ⟨i, hi, e⟩ := List.mem_iff_getElem.1 hy
    obtain ⟨ao, c, -, -, hcell⟩ := hX
    obtain ⟨b, off, -, -, h1, h2⟩ := hcell i hi
    rw [← e]
    exact ⟨h1, h2⟩
  have HAll : Hid (∀ y, y ∈ la ∨ y ∈ lx → Sl w y.1 y.2 ∧ Bs y.2) := hide (fun y hy => hy.elim (hLs y) (hXs y))
  have HXx := hide hX
  have HLa := hide hla
  have HLx := hide hlx
  have HNd := hide hnd
  obtain ⟨av, cv, hva, h1, h2, h3⟩ := hL.shape
  obtain ⟨nv, hnv⟩ : ∃ n, n = la.length := ⟨_, rfl⟩
  rw [← hnv] at hva hn
  subst hva
  have HLs := hide hL.1
  have H3 := hide h3
  have HNv := hide hnv
  obtain ⟨ax, cx, hvx, -, hcellx⟩ := hX
  have HCx := hide hcellx
  obtain ⟨nx, hnx⟩ : ∃ n, n = lx.length := ⟨_, rfl⟩
  rw [← hnx] at hvx hm
  subst hvx
  have HNx := hide hnx
  have hrow0 : RowV (w.alloc (.cells #[] 22)) w.heap.size (.slice (some ⟨w.heap.size, 0, none⟩) 0 0) [] := World.ownsRow_made w #[] 0 (Nat.le_refl _) (by simp [maxLen]) rfl
  have HRow0 := hide hrow0
  have HK0 : Hid (Kp [] w (w.alloc (.cells #[] 22))) := hide ((Kp.refl [] _).alloc _)
  have hc0 := HK0.out.cell hc (by simp)
  clear hL hla hlx hnd hLs hXs h1 h2 h3 hnv hcellx hnx hrow0 hc
  go_enter Tryz.func32, Tryz.ntmps32
  go_wp2_with (
    at_builtin
    refine wpList_append_list rfl (.tmp 11) (.tmp 15) rfl w.heap.size _ [] rfl HRow0.out av nv cv la rfl (HLs.out.kept HK0.out) H3.out (by rw [← HNv.out]; simp; omega) HK0.out.size ?_
    intro a1 m1 c1 w1 R1 S1
    refine Hid.out ?_)
  rw [List.nil_append] at R1
  have S1' : RStep (w.alloc (.cells #[] 22)) (.slice (some ⟨w.heap.size, 0, none⟩) 0 0) w1 (.slice a1 m1 c1) := S1
  have HK1 : Hid (Kp [] w w1) := hide (HK0.out.then S1'.1 (fun i hi => .inr (by
    have h1 : i = w.heap.size := by simpa [Value.ownBlock] using hi
    omega)))
  have HR1 := hide R1
  obtain ⟨p2, hp2⟩ : ∃ p, p = w1.heap.size := ⟨_, rfl⟩
  obtain ⟨w2, hw2⟩ : ∃ y, y = w1.alloc (.cells #[.slice a1 m1 c1, .pointer none, .int .i64 0, .int .i64 0, .slice none 0 0, .int .i64 0, .slice none 0 0, .slice none 0 0, .bool false] 74) := ⟨_, rfl⟩
  have K2 : Kp [] w1 w2 := by rw [hw2]; exact (Kp.refl [] _).alloc _
  have HPl : Hid (PlI w p2 la lx its xs 0 (.slice none 0 0) (.slice none 0 0) w2) := hide (by
    have hs1 := HK1.out.size
    have hs2 : w2.heap.size = p2 + 1 := by rw [hw2, hp2]; simp
    refine ⟨.slice a1 m1 c1, la, [], by rw [hw2, hp2]; exact heap_alloc_new w1 _, HR1.out.kept K2 (by simp), ?_, fun y hy => .inl hy, World.ownsRow_nil _ _ _ _, ?_, (fun y hy => by cases hy), World.ownsRow_nil _ _ _ _, (Two.nil _).symm, (Two.nil _).symm, Two.nil _, fun j hj e => ?_, (fun j hj => by cases hj), (fun j hj => by cases hj), by omega, by omega, HK1.out.trans K2⟩
    · rw [List.take_zero, allU_nil, HLa.out]
    · rw [List.take_zero, newU_nil]; rfl
    · have := HR1.out.lt hj; omega)
  have HW2 := hide hw2
  have HP2 := hide hp2
  clear R1 S1 S1' hc0 hw2 hp2 K2 HK0 HRow0
  refine hide ?_
  go_wp2_with fail
  rw [← HW2.out, ← HP2.out]
  go_loopw [7, 8, 9] (fun vn vf i wr => ∃ k : Nat, k ≤ nx ∧ i = .int .i64 k ∧ ∃ an mn cn af mf cf, vn = .slice an mn cn ∧ vf = .slice af mf cf ∧ PlI w p2 la lx its xs k (.slice an mn cn) (.slice af mf cf) wr) (fun _ _ i _ => nx - (intOf i).toNat)
  case atStart => exact ⟨0, by omega, rfl, none, 0, 0, none, 0, 0, rfl, rfl, HPl.out⟩
  case round =>
    clear HPl
    obtain ⟨k, hk, rfl, an, mn, cn, af, mf, cf, rfl, rfl, vi, lA, lf, hP, hRA, hAm, hAo, hRF, hFm, hFo, hRN, t1, t2, t3, hi2, hf2, hn2, hpw, hpr, hK⟩ := hrel
    obtain ⟨ai, ci, hvi⟩ := hRA.shape
    obtain ⟨mi, hmi⟩ : ∃ n, n = (lA.map (·.1)).length := ⟨_, rfl⟩
    rw [← hmi] at hvi
    subst hvi
    have HP := hide hP
    have HRA := hide hRA
    have HAm := hide hAm
    have HAo := hide hAo
    have HRF := hide hRF
    have HFm := hide hFm
    have HFo := hide hFo
    have HRN := hide hRN
    have HT1 := hide t1
    have HT2 := hide t2
    have HT3 := hide t3
    have HI2 := hide hi2
    have HF2 := hide hf2
    have HN2 := hide hn2
    have HPw := hide hpw
    have HPr := hide hpr
    have HK := hide hK
    have HMi := hide hmi
    have hlAl : lA.length ≤ 11000 := by
      have h1 := congrArg List.length hAm
      have h2 := allU_le its (xs.take k)
      have h3 : its.length = nv := by rw [← HLa.out, List.length_map, HNv.out]
      rw [List.length_map] at h1
      rw [List.length_take] at h2
      have h4 : xs.length = nx := by rw [← HLx.out, List.length_map, HNx.out]
      omega
    clear hP hRA hAm hAo hRF hFm hFo hRN t1 t2 t3 hi2 hf2 hn2 hpw hpr hK hmi
    by_cases hlt : k < nx
    · have hlt' : (k : Int) < (nx : Int) := by omega
      have hkl : k < lx.length := by rw [← HNx.out]; exact hlt
      obtain ⟨bx, ox, rfl, hcx, hSx, hBx⟩ := HCx.out k hkl
      have hcw := HK.out.cell hcx (by simp)
      have hSw := hSx.kept HK.out (by simp)
      have HKpl := HK
      have hmem : lx[k] ∈ lx := List.getElem_mem hkl
      have hxk : k < xs.length := by rw [← HLx.out, List.length_map]; exact hkl
      have h2k : lx[k].2 = xs[k] := by
        have h1 : (lx.map (·.2))[k]? = xs[k]? := by rw [HLx.out]
        rw [List.getElem?_map, List.getElem?_eq_getElem hkl, List.getElem?_eq_getElem hxk] at h1
        exact Option.some.inj h1
      have htk : xs.take (k + 1) = xs.take k ++ [lx[k].2] := by rw [h2k]; exact List.take_succ_eq_append_getElem hxk
      obtain ⟨e, he⟩ : ∃ e, e = lx[k] := ⟨_, rfl⟩
      rw [← he] at hcx hSx hBx hcw hSw hmem htk
      obtain ⟨ve, be⟩ := e
      simp only at hcx hSx hBx hcw hSw htk
      obtain ⟨ae, ce, hve, -⟩ := id hSw
      obtain ⟨me, hme⟩ : ∃ n, n = be.length := ⟨_, rfl⟩
      rw [← hme] at hve
      subst hve
      have HCw := hide hcx
      have HTk := hide htk
      have HMem := hide hmem
      have HSx := hide hSx
      have HBx := hide hBx
      have RA := rowS_old HRA.out HK.out (fun y hy => HAll.out y (HAo.out y hy))
      obtain ⟨r, hr⟩ : ∃ r, r = fdU (lA.map (·.2)) be := ⟨_, rfl⟩
      have HFd := hide (rfind_any p2 (.slice ai mi ci) lA (.slice ae me ce) be r wr HP.out.c0 (lists_big RA (by omega)) hSw hBx (by omega) hr)
      rw [HAm.out] at hr
      have HR := hide hr
      clear hcx hSx hBx hmem htk he hme RA hr h2k hxk
      by_cases hin : be ∈ allU its (xs.take k)
      · have hr0 : ¬ r < 0 := by rw [HR.out]; unfold fdU; rw [if_pos hin]; omega
        have hdr : decide (r < 0) = false := decide_eq_false hr0
        have HIn := hide hin
        clear hin
        go_wp2_with fail
        refine HFd.out.mono ?_
        rintro ee w3 ⟨rfl, K3⟩
        have HK3 := hide K3
        have HRN3 := hide (HRN.out.kept K3 (by simp))
        clear HFd K3
        have hnl : (nsU its (xs.take k)).length ≤ 1000 := by rw [nsU_len, List.length_take]; omega
        go_wp2_with (at_builtin; refine wpList_append_rowi rfl (.tmp 58) (.tmp 60) rfl w.heap.size (.slice an mn cn) _ rfl HRN3.out r rfl (by omega) (HK.out.trans HK3.out).size ?_; intro a4 m4 c4 w4 R4 S4)
        go_roundw
        case rel =>
          have hown : ∀ j ∈ (Value.slice an mn cn).ownBlock.toList, (Value.slice an mn cn).ownBlock = some j := fun j hj => by simpa [Option.mem_toList] using hj
          have hs3 := HK3.out.size
          have hs4 := S4.1.size
          refine ⟨k + 1, by omega, by go_num, a4, m4, c4, af, mf, cf, rfl, rfl, .slice ai mi ci, lA, lf, (HP.out.kept HK3.out (by simp)).kept S4.1 (fun hm => HN2.out p2 (hown p2 hm) rfl), (HRA.out.kept HK3.out (by simp)).kept S4.1 (fun j hj hm => HT2.out j hj (hown j hm)), ?_, HAo.out, (HRF.out.kept HK3.out (by simp)).kept S4.1 (fun j hj hm => HT3.out j hj (hown j hm)), ?_, HFo.out, ?_, HT1.out, ?_, ?_, HI2.out, HF2.out, ?_, HPw.out, by have := HPr.out; omega, (HK.out.trans HK3.out).then S4.1 (fun j hj => .inr (HRN.out.lt (hown j hj)).1)⟩
          · rw [HTk.out, allU_snoc, insU_old HIn.out]; exact HAm.out
          · rw [HTk.out, newU_snoc, if_pos HIn.out]; exact HFm.out
          · have e : nsU its (xs.take (k + 1)) = nsU its (xs.take k) ++ [r] := by
              rw [HTk.out, nsU_snoc, HR.out]
              unfold fdU
              rw [if_pos HIn.out]
            rw [e]
            exact R4
          · exact (HT2.out.symm.step S4 (fun j hj => by have := HRA.out.lt hj; omega)).symm
          · exact (HT3.out.symm.step S4 (fun j hj => by have := HRF.out.lt hj; omega)).symm
          · intro j hj e
            rcases S4.2 j hj with h1 | h1
            · exact HN2.out j h1 e
            · have := HPr.out; omega
        case measure => simp [intOf]; omega
      · have hr0 : r = -1 := by rw [HR.out]; unfold fdU; rw [if_neg hin]
        have HIn := hide hin
        subst hr0
        clear hin
        go_wp2_with fail
        refine HFd.out.mono ?_
        rintro ee w3 ⟨rfl, K3⟩
        have HK3 := hide K3
        have HP3 := hide (HP.out.kept K3 (by simp))
        have hc3 := HP3.out.c0
        have hci3 := K3.cell hcw (by simp)
        have hca3 : ∀ o, (w3.alloc o).cell? ⟨p2, 0, none⟩ = some (.slice ai mi ci) := fun o => (World.cell?_alloc_lt _ _ _ (by have := HPr.out; have := HK3.out.size; show p2 < _; omega)).trans hc3
        have hcia : ∀ o, (w3.alloc o).cell? ⟨bx, ox + k, none⟩ = some (.slice ae me ce) := fun o => (World.cell?_alloc_lt _ _ _ (World.block_lt_of_cell? _ _ hci3)).trans hci3
        have HRA3 := hide (HRA.out.kept K3 (by simp))
        have HRF3 := hide (HRF.out.kept K3 (by simp))
        have HRN3 := hide (HRN.out.kept K3 (by simp))
        have HCx3 := hide hci3
        have HHd : Hid (w.heap.size ≤ w3.heap.size) := hide (HK.out.trans HK3.out).size
        have hlAm : (lA.map (·.1)).length ≤ 1000000 := by rw [List.length_map]; omega
        clear HFd K3 hcw
        go_wp2_with fail
        go_region_law ((refine step_rowv (by rfl) (.tmp 42) (.tmp 47) (by rfl) w.heap.size (.slice ai mi ci) (lA.map (·.1)) (by rfl) (HRA3.out.kept (((Kp.refl [] w3).alloc _).drew) (by simp)) hlAm (.slice ae me ce) rfl w3.heap.size (by rfl) (by exact cell_of_one (heap_alloc_new w3 _)) (Nat.le_trans HHd.out (((Kp.refl [] w3).alloc _).drew).size) ?_; intro a5 m5 c5 w5 hm5 R5 S5; have P5 : RLi w5 p2 (.slice ai mi ci) := (HP3.out.kept (((Kp.refl [] w3).alloc _).drew) (by simp)).kept S5.1 (fun hm => HI2.out p2 (by simpa [Option.mem_toList] using hm) rfl); have hc5 := P5.c0; have hf5 := P5.f 0))
        all_goals
          have st := S5.after (((Kp.refl [] w3).alloc (.cells #[.slice ae me ce] 22)).drew)
          obtain ⟨m6, hm6⟩ : ∃ m, m = lA.length + 1 := ⟨_, rfl⟩
          have hmm : m5 = m6 := by rw [hm6, hm5, List.length_map]
          rw [← hm6]
          subst hmm
          obtain ⟨w6, hw6⟩ : ∃ y, y = w5.setCell ⟨p2, 0, none⟩ (.slice a5 m5 c5) := ⟨_, rfl⟩
          rw [← hw6]
          have hown : ∀ j ∈ (Value.slice ai mi ci).ownBlock.toList, (Value.slice ai mi ci).ownBlock = some j := fun j hj => by simpa [Option.mem_toList] using hj
          have P6 : RLi w6 p2 (.slice a5 m5 c5) := by rw [hw6]; exact P5.set _
          have k6 : Kp [p2] w5 w6 := by rw [hw6]; exact kp_set w5 p2 0 _
          have hs3 := HK3.out.size
          have hs5 := st.1.size
          have hpr := HPr.out
          have K6 : Kp [] w w6 := ((HK.out.trans HK3.out).then st.1 (fun j hj => .inr (HRA.out.own j (hown j hj)))).then k6 (fun j hj => .inr (by simp at hj; have := HPw.out; omega))
          have o5 : ∀ j, (Value.slice a5 m5 c5).ownBlock = some j → j ≠ p2 := fun j hj e => by
            rcases st.2 j hj with h1 | h1
            · exact HI2.out j h1 e
            · omega
          have RA6 : RowV w6 w.heap.size (.slice a5 m5 c5) (lA.map (·.1) ++ [.slice ae me ce]) := R5.kept k6 (fun j hj hm => by simp at hm; exact o5 j hj hm)
          have RF6 : RowV w6 w.heap.size (.slice af mf cf) (lf.map (·.1)) := (HRF3.out.kept st.1 (fun j hj hm => HT1.out.symm j hj (hown j hm))).kept k6 (fun j hj hm => by simp at hm; exact HF2.out j hj hm)
          have RN6 : RowI w6 w.heap.size (.slice an mn cn) (nsU its (xs.take k)) := (HRN3.out.kept st.1 (fun j hj hm => HT2.out.symm j hj (hown j hm))).kept k6 (fun j hj hm => by simp at hm; exact HN2.out j hj hm)
          have T1 : Two (.slice a5 m5 c5) (.slice af mf cf) := HT1.out.step st (fun j hj => HRF3.out.lt hj)
          have T2 : Two (.slice a5 m5 c5) (.slice an mn cn) := HT2.out.step st (fun j hj => (HRN3.out.lt hj).2)
          have hci6 := K6.cell HCw.out (by simp)
          have hsz6 : w6.heap.size = w5.heap.size := by rw [hw6]; simp [World.setCell]
          have HP6 := hide P6
          have HK6 := hide K6
          have HO5 := hide o5
          have HRA6 := hide RA6
          have HRF6 := hide RF6
          have HRN6 := hide RN6
          have HU1 := hide T1
          have HU2 := hide T2
          have HM6 : Hid (m5 = lA.length + 1) := hide hm6
          have HS6 : Hid (p2 < w6.heap.size) := hide (by omega)
          have hlfl : (lf.map (·.1)).length ≤ 1000000 := by
            have h1 := congrArg List.length HFm.out
            rw [List.length_map] at h1
            have h2 := newU_le its (xs.take k)
            rw [List.length_take] at h2
            rw [List.length_map]
            omega
          clear R5 S5 st P5 P6 k6 K6 o5 RA6 RF6 RN6 T1 T2 hc5 hf5 hc3 hci3 hca3 hcia hsz6 hm5 hm6 hw6 hown
          go_wp2_with (
            at_builtin
            refine wpList_rowv1 rfl (.tmp 51) (.tmp 56) rfl (.slice af mf cf) (lf.map (·.1)) rfl HRF6.out HK6.out.size hlfl (.slice ae me ce) rfl rfl ?_
            intro a7 m7 c7 w7 hm7 R7 S7
            clear hm7
            refine Hid.out ?_)
          have hown : ∀ j ∈ (Value.slice af mf cf).ownBlock.toList, (Value.slice af mf cf).ownBlock = some j := fun j hj => by simpa [Option.mem_toList] using hj
          have hs7 := S7.1.size
          have HP7 := hide (HP6.out.kept S7.1 (fun hm => HF2.out p2 (hown p2 hm) rfl))
          have HRA7 := hide (HRA6.out.kept S7.1 (fun j hj hm => HU1.out j hj (hown j hm)))
          have HRN7 := hide (HRN6.out.kept S7.1 (fun j hj hm => HT3.out.symm j hj (hown j hm)))
          have HK7 := hide (HK6.out.then S7.1 (fun j hj => .inr (HRF6.out.own j (hown j hj))))
          have HV1 : Hid (Two (.slice a5 m5 c5) (.slice a7 m7 c7)) := hide ((HU1.out.symm.step S7 (fun j hj => HRA6.out.lt hj)).symm)
          have HV3 : Hid (Two (.slice a7 m7 c7) (.slice an mn cn)) := hide (HT3.out.step S7 (fun j hj => (HRN6.out.lt hj).2))
          have HO7 : Hid (∀ j, (Value.slice a7 m7 c7).ownBlock = some j → j ≠ p2) := hide (fun j hj e => by
            rcases S7.2 j hj with h1 | h1
            · exact HF2.out j h1 e
            · have := HS6.out; omega)
          have HR7 := hide R7
          have HS7 : Hid (p2 < w7.heap.size) := hide (by have := HS6.out; omega)
          have hnl : (nsU its (xs.take k)).length ≤ 1000 := by rw [nsU_len, List.length_take]; omega
          clear R7 S7 hown hci6
          refine hide ?_
          go_wp2_with (at_builtin; refine wpList_append_rowi rfl (.tmp 58) (.tmp 60) rfl w.heap.size (.slice an mn cn) _ rfl HRN7.out (mi : Int) rfl (by omega) HK7.out.size ?_; intro a8 m8 c8 w8 R8 S8)
          go_roundw
          case rel =>
            have hown : ∀ j ∈ (Value.slice an mn cn).ownBlock.toList, (Value.slice an mn cn).ownBlock = some j := fun j hj => by simpa [Option.mem_toList] using hj
            have hs8 := S8.1.size
            refine ⟨k + 1, by omega, by go_num, a8, m8, c8, a7, m7, c7, rfl, rfl, .slice a5 m5 c5, lA ++ [(.slice ae me ce, be)], lf ++ [(.slice ae me ce, be)], HP7.out.kept S8.1 (fun hm => HN2.out p2 (hown p2 hm) rfl), ?_, ?_, fun y hy => ?_, ?_, ?_, fun y hy => ?_, ?_, HV1.out, ?_, ?_, HO5.out, HO7.out, ?_, HPw.out, by have := HS7.out; omega, HK7.out.then S8.1 (fun j hj => .inr (HRN.out.lt (hown j hj)).1)⟩
            · rw [List.map_append]; exact HRA7.out.kept S8.1 (fun j hj hm => HU2.out j hj (hown j hm))
            · rw [HTk.out, allU_snoc, insU_new HIn.out, List.map_append, HAm.out]; rfl
            · rcases List.mem_append.1 hy with hy | hy
              · exact HAo.out y hy
              · obtain rfl : y = (.slice ae me ce, be) := by simpa using hy
                exact .inr HMem.out
            · rw [List.map_append]; exact HR7.out.kept S8.1 (fun j hj hm => HV3.out j hj (hown j hm))
            · rw [HTk.out, newU_snoc, if_neg HIn.out, List.map_append, HFm.out]; rfl
            · rcases List.mem_append.1 hy with hy | hy
              · exact HFo.out y hy
              · obtain rfl : y = (.slice ae me ce, be) := by simpa using hy
                exact HMem.out
            · have e : nsU its (xs.take (k + 1)) = nsU its (xs.take k) ++ [(mi : Int)] := by
                rw [HTk.out, nsU_snoc, idx_none HIn.out, ← HAm.out, HMi.out, List.length_map, List.length_map]
              rw [e]
              exact R8
            · exact (HU2.out.symm.step S8 (fun j hj => HRA7.out.lt hj)).symm
            · exact (HV3.out.symm.step S8 (fun j hj => HR7.out.lt hj)).symm
            · intro j hj e
              rcases S8.2 j hj with h1 | h1
              · exact HN2.out j h1 e
              · have := HS7.out; omega
          case measure => simp [intOf]; omega
    · obtain rfl : k = nx := by omega
      have hlt' : ¬ (k : Int) < (k : Int) := by omega
      have e : xs.take k = xs := List.take_of_length_le (by rw [← HLx.out, List.length_map, HNx.out]; omega)
      rw [e] at HFm HRN
      clear e
      go_wp2_with fail
      go_ret2
      exact ⟨an, mn, cn, af, mf, cf, rfl, HRN.out, ⟨lf, rowS_old HRF.out HK.out (fun y hy => HAll.out y (.inr (HFo.out y hy))), HFm.out, HFo.out⟩, HK.out⟩
end Go.Proofs.YtillhpgdlmeajaaGreatDoor
