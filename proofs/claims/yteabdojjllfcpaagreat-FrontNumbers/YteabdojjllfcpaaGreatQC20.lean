/-
  The contracts of the reference's Num and Bytes (numbers and texts behind what there is).
-/
import Derived.Test.YteabdojjllfcpaaGreatQC15
import Derived.Test.YteabdojjllfcpaaGreatQC12
namespace Go.Proofs.YteabdojjllfcpaaGreat
open Go.RowKit
open Go.Proofs
set_option maxHeartbeats 400000 in
theorem refnumM_any (v : Value) (bs : List Int) (n : Int) (base : Nat) (w : World) (h : Row w base v bs) (hbase : base ≤ w.heap.size) (hb : bs.length ≤ 100000000000) :
    Calls Tryz.prog 44 #[v, .int .u32 n] w fun e w' => ∃ ao m c, e = .returned (.slice ao m c) ∧ Row w' base (.slice ao m c) (bs ++ be4 n) ∧ RStep w v w' (.slice ao m c) := by
  obtain ⟨cs, hcs⟩ : ∃ cs, cs = be4 n := ⟨_, rfl⟩
  have hl : cs.length = 4 := by rw [hcs]; rfl
  have hsl : Sl (w.alloc (.cells #[.int .u8 (n / 16777216 % 256), .int .u8 (n / 65536 % 256), .int .u8 (n / 256 % 256), .int .u8 (n % 256)] 5)) (.slice (some ⟨w.heap.size, 0, none⟩) 4 4) cs := by
    rw [hcs]; exact Sl.block (cs := [n / 16777216 % 256, n / 65536 % 256, n / 256 % 256, n % 256]) (t := 5) (heap_alloc_new w _) (by simp [maxLen])
  rw [← hcs]
  clear hcs
  go_enter Tryz.func44, Tryz.ntmps44
  go_wp2_with (at_builtin; refine wpList_append_row rfl _ _ rfl base v bs rfl (h.kept ((Kp.refl [] w).alloc _) (by simp)) _ cs rfl hsl (by omega) (by simp; omega) ?_; intro ao m c w1 r1 s1)
  go_ret
  exact ⟨ao, m, c, rfl, r1, s1.after ((Kp.refl [] w).alloc _)⟩
set_option maxHeartbeats 400000 in
theorem refbytes_any (v : Value) (bs : List Int) (vx : Value) (cs : List Int) (base : Nat) (w : World) (h : Row w base v bs) (hbase : base ≤ w.heap.size) (hb : bs.length + cs.length ≤ 100000000000) (hS : Sl w vx cs) (hk : ∀ w1, Kp v.ownBlock.toList w w1 → Sl w1 vx cs) :
    Calls Tryz.prog 79 #[v, vx] w fun e w' => ∃ ao m c, e = .returned (.slice ao m c) ∧ Row w' base (.slice ao m c) (bs ++ be2 cs.length ++ cs) ∧ RStep w v w' (.slice ao m c) := by
  obtain ⟨ax, cx, rfl, hx1, hx2, hx3, _⟩ := hS
  have HK := hide hk
  clear hk
  obtain ⟨ds, hds⟩ : ∃ ds, ds = be2 cs.length := ⟨_, rfl⟩
  have hl : ds.length = 2 := by rw [hds]; rfl
  have hsl : Sl (w.alloc (.cells #[.int .u8 ((cs.length : Int) / 256 % 256), .int .u8 ((cs.length : Int) % 256)] 5)) (.slice (some ⟨w.heap.size, 0, none⟩) 2 2) ds := by
    rw [hds]; exact Sl.block (cs := [(cs.length : Int) / 256 % 256, (cs.length : Int) % 256]) (t := 5) (heap_alloc_new w _) (by simp [maxLen])
  rw [← hds]
  clear hds
  go_enter Tryz.func79, Tryz.ntmps79
  go_wp2_with (first | (at_builtin; refine wpList_append_row rfl (.tmp 5) (.tmp 13) rfl base v bs rfl (h.kept ((Kp.refl [] w).alloc _) (by simp)) _ ds rfl hsl (by omega) (by simp; omega) ?_; intro ao m c w1 r1 s1; have s1' := s1.after ((Kp.refl [] w).alloc _); have hsx := unhide HK _ s1'.1) | (at_builtin; refine wpList_append_row rfl (.tmp 14) (.tmp 15) rfl base _ _ rfl r1 _ cs rfl hsx (by rw [List.length_append]; omega) (by have := s1'.1.size; omega) ?_; intro ao2 m2 c2 w2 r2 s2))
  go_ret
  exact ⟨ao2, m2, c2, rfl, r2, s1'.trans s2⟩
/-- onto a slice without room: it only makes memory. -/
theorem refbytes_full (v : Value) (bs : List Int) (vx : Value) (cs : List Int) (w : World) (h : Full bs v w) (hb : bs.length + cs.length ≤ 100000000000) (hS : Sl w vx cs) :
    Calls Tryz.prog 79 #[v, vx] w fun e w' => ∃ ao m c, e = .returned (.slice ao m c) ∧ Row w' w.heap.size (.slice ao m c) (bs ++ be2 cs.length ++ cs) ∧ Kp [] w w' := by
  obtain ⟨i0, hi0, hz0, hz1, hz2⟩ := info_parts Tryz.info5
  obtain ⟨⟨ad, rfl⟩, hV⟩ := h
  have HS := hide hS
  obtain ⟨ax, cx, rfl, hx1, hx2, hx3, _⟩ := hS
  obtain ⟨ds, hds⟩ : ∃ ds, ds = be2 cs.length := ⟨_, rfl⟩
  have hl : ds.length = 2 := by rw [hds]; rfl
  obtain ⟨ob, hob⟩ : ∃ o : Obj, o = .cells #[.int .u8 ((cs.length : Int) / 256 % 256), .int .u8 ((cs.length : Int) % 256)] 5 := ⟨_, rfl⟩
  have K1 : Kp [] w (w.alloc ob) := (Kp.refl [] w).alloc ob
  have hsl : Sl (w.alloc ob) (.slice (some ⟨w.heap.size, 0, none⟩) 2 2) ds := by
    rw [hds, hob]; exact Sl.block (cs := [(cs.length : Int) / 256 % 256, (cs.length : Int) % 256]) (t := 5) (heap_alloc_new w _) (by simp [maxLen])
  have hnews : ∀ j u, (ds.map (Value.int .u8))[j]? = some u → (w.alloc ob).cell? ((⟨w.heap.size, 0, none⟩ : Addr).add j) = some u := by
    obtain ⟨_, _, e, _, _, _, h4⟩ := hsl
    injection e with e1 e2 e3
    exact h4 _ e1.symm
  have holds : ∀ b, some ad = some b → ∀ j u, (bs.map (Value.int .u8))[j]? = some u → (w.alloc ob).cell? (b.add j) = some u := by
    obtain ⟨_, _, e, _, _, _, h4⟩ := hV.kept K1 (by simp)
    injection e with e1 e2 e3
    intro b hb'
    exact h4 _ (by rw [← e1]; exact hb')
  have hz : (w.alloc ob).heap.size = w.heap.size + 1 := by simp
  rw [← hds]
  rw [hob] at K1 hnews holds hz
  have HK1 := hide K1
  have HZ := hide hz
  clear hds hob hsl hz
  go_enter Tryz.func79, Tryz.ntmps79
  go_wp2_with (first
    | (at_builtin; refine wpList_append_grows _ rfl (.tmp 5) (.tmp 13) 28 rfl 5 i0 (.int .u8 0) 1 1 Tryz.underlying28 hi0 hz0 hz1 hz2 rfl (by omega) (some ad) bs.length bs.length (bs.map (Value.int .u8)) rfl (fun h => by cases h) (by simp) holds ⟨w.heap.size, 0, none⟩ 2 2 (ds.map (Value.int .u8)) rfl (by simp; omega) hnews (by simp [Value.oneCell']) (by omega) (by unfold maxLen; omega) (by omega) ?_; intro v1 w1 o1 g1; have R1 : Row w1 w.heap.size v1 (bs ++ ds) := (by rw [unhide HZ] at o1; have := owns_rebase (base' := w.heap.size) o1 (fun k hk => by have := (o1.lt k hk).1; omega); unfold Row; rw [List.map_append, List.length_append, hl]; exact this); have K2 := (unhide HK1).grown g1 (by intro k hk; cases hk); obtain ⟨b1, m1, y1, hv1⟩ : ∃ b m y, v1 = .slice b m y := (by obtain ⟨b, y, e⟩ := R1.shape; exact ⟨b, _, y, e⟩); subst hv1; have hsx := (unhide HS).kept K2 (by simp))
    | (at_builtin; refine wpList_append_row rfl (.tmp 14) (.tmp 15) rfl w.heap.size _ _ rfl R1 _ cs rfl hsx (by rw [List.length_append]; omega) (by have := K2.size; omega) ?_; intro ao2 m2 c2 w2 r2 s2))
  go_ret
  exact ⟨ao2, m2, c2, rfl, r2, R1.step K2 s2⟩
end Go.Proofs.YteabdojjllfcpaaGreat

/-
  The contracts of the reference's Encode and of the law package's Item.
-/
namespace Go.Proofs.YteabdojjllfcpaaGreat
open Go.RowKit
open Go.Proofs
/-- The value is a slice of the call's own that reads so. -/
def RowB (B : Nat) (bs : List Int) : Tell := fun v w => (∃ ao m c, v = .slice ao m c) ∧ Row w B v bs
theorem stable_rowb (B : Nat) (bs : List Int) : Tell.stable (RowB B bs) := fun _ _ _ k h => ⟨h.1, h.2.kept k (by simp)⟩
theorem grown_full1 {o : Oper} {a : Act} {w : World} (b : Int) (ho : o.op = .buildSlice 28 1 #[(0, .const (.int .u8 b))]) : grown Tryz.prog w (Full [b]) ((execOp a.eval o).run Tryz.prog w) := by
  refine grown_run (v := .slice (some ⟨w.heap.size, 0, none⟩) 1 1) (w' := w.alloc (.cells #[.int .u8 b] 5)) ?_ ((Kp.refl _ _).alloc _) ⟨⟨_, rfl⟩, Sl.block (cs := [b]) (t := 5) (fr := (0, 0)) (heap_alloc_new w _) (by simp [maxLen])⟩
  obtain ⟨ρ, hρ, hc, _⟩ := eval_is a
  rw [hρ]
  unfold execOp
  simp only [ho]
  simp [go_sem, hc]
theorem grown_convS {o : Oper} {a : Act} {w : World} (x : Operand) (S : ByteArray) (hS : S.size ≤ 9223372036854775807) (ho : o.op = .convert 9 28 x) (h : a.eval x = .string S) : grown Tryz.prog w (SlT (nums S)) ((execOp a.eval o).run Tryz.prog w) := by
  obtain ⟨c, w', hr, hs, hk⟩ := conv_big S w hS
  refine grown_run (v := .slice (some ⟨w.heap.size, 0, none⟩) S.size c) (w' := w') ?_ hk hs
  unfold execOp
  simp only [ho, h, Sem.run_bind, hr, Result.andThen_ok, Sem.run_pure]
theorem step_callM {P : Program} {ops : Array Oper} {o : Oper} {a : Act} {w : World} {K : Act → World → Prop} {Q : Exit → Act → World → Prop} {E : Prop} {f : FuncId} {fn : Func} {xs : Array Operand} {ats : Array TypeId} (hgd : o.guard = none) (ho : o.op = .call { callee := .value (.func f), args := xs, argTypes := ats }) (hf : P.funcs[f]? = some fn) (hn : (fn.name == "runtime.NumGoroutine") = false) (hb : fn.body.isNone = false)
    (h : Calls P f (xs.map a.eval) w fun e w' => ∃ v, e = .returned v ∧ K (a.put o.dst v) w') : if Region.wanted o (yielded ops a.tmps) = true then Oper.wp P o a w K Q else E := by
  have hw : Region.wanted o (yielded ops a.tmps) = true := by simp [Region.wanted, hgd]
  rw [if_pos hw]
  have e : (execOp a.eval o).run P w = .ok (.enter f (xs.map a.eval)) w := by
    obtain ⟨dst, op, ty, pos, after, guard⟩ := o
    simp only at ho
    subst ho
    rw [execOp_call_go]
    have h1 : fn.name ≠ "runtime.NumGoroutine" := by simpa using hn
    have h2 : ¬ fn.body = none := by intro h2; rw [h2] at hb; cases hb
    simp [callFunc, hf, h1, h2]
  unfold Oper.wp
  rw [e]
  simp only [Oper.upon]
  refine h.mono ?_
  rintro e' w' ⟨v, rfl, hv⟩
  exact hv
set_option maxRecDepth 100000 in
set_option maxHeartbeats 4000000 in
theorem rencode_any (v : Value) (m : Mf) (w : World) (hV : MV w v m) (hsz : m.s.size ≤ 1000) (hfz : m.f.length ≤ 1000) (hnz : m.n.length ≤ 1000) :
    Calls Tryz.prog 45 #[v] w fun e w' => ∃ ao k c, e = .returned (.slice ao k c) ∧ Row w' w.heap.size (.slice ao k c) (encM m) ∧ Kp [] w w' := by
  obtain ⟨af, nf, cf, an, nn, cn, rfl, hF, hNt, hok⟩ := hV
  have hE : encM m = [77] ++ be2 (nums m.s).length ++ nums m.s ++ be4 m.v ++ m.f ++ be2 m.n.length ++ m.n := by unfold encM; simp only [List.append_assoc]
  obtain ⟨s, x, f, n⟩ := m
  simp only at hF hNt hE hsz hfz hnz ⊢
  have HE := hide hE
  have HSZ := hide hsz
  have HFZ := hide hfz
  have HNZ := hide hnz
  have HF := hide hF
  have HNt := hide hNt
  obtain ⟨g0, hg0⟩ : ∃ g, g = w.heap.size := ⟨_, rfl⟩
  obtain ⟨w0, hw0⟩ : ∃ w0, w0 = w.alloc (.cells #[.string s, .int .u32 x, .slice af nf cf, .slice an nn cn] 99) := ⟨_, rfl⟩
  have K0 : Kp [] w w0 := by rw [hw0]; exact (Kp.refl [] w).alloc _
  have G0 : w0.heap[g0]? = some (.cells #[.string s, .int .u32 x, .slice af nf cf, .slice an nn cn] 99 (0, 0)) := by rw [hw0, hg0]; exact heap_alloc_new w _
  have HK0 := hide K0
  have HG0 := hide G0
  have HST : Hid (∀ w', Kp [] w0.drew w' → w'.heap[g0]? = some (.cells #[.string s, .int .u32 x, .slice af nf cf, .slice an nn cn] 99 (0, 0))) := fun w' k' => ((kp_drew w0).trans k').heap G0 (by simp)
  have HGW := hide hg0
  have HW0 := hide hw0
  clear hF hNt hE hsz hfz hnz hok hg0 hw0 K0 G0
  go_enter Tryz.func45, Tryz.ntmps45
  go_wp2_with fail
  rw [← unhide HW0, ← unhide HGW]
  refine region_grow_tail 7 Tryz.mixed [Full [77], Is (.pointer (some ⟨g0, 0, none⟩)), Is (.string s), SlT (nums s), RowB w0.drew.heap.size ([77] ++ be2 (nums s).length ++ nums s), Is (.pointer (some ⟨g0, 1, none⟩)), Is (.int .u32 x)] [[], [(1, none)], [(5, some 1)], [(6, some 2)], [(4, some 0), (7, some 3)], [(1, none)], [(9, some 5)]] (by kernel_rfl) ?_ ?_ ?_
  all_goals try simp only [List.take_succ_cons, List.take_zero, List.drop_succ_cons, List.drop_zero]
  · simp only [List.mem_cons, List.not_mem_nil, or_false]
    intro R hR
    rcases hR with rfl | rfl | rfl | rfl | rfl | rfl | rfl <;> first | exact stable_full _ | exact stable_is _ | exact stable_sl _ | exact stable_rowb _ _
  · refine steps_cons (fun a w hk hn => ?_) ?_
    · clear hn
      refine wants_plain rfl ?_
      exact grown_full1 77 rfl
    refine steps_cons (fun a w hk hn => ?_) ?_
    · have h1 : a.eval (.tmp 1) = .pointer (some ⟨g0, 0, none⟩) := hn.1
      clear hn
      refine wants_plain rfl ?_
      exact grown_mfld (.tmp 1) 0 (by omega) rfl h1
    refine steps_cons (fun a w hk hn => ?_) ?_
    · have h5 : a.eval (.tmp 5) = .pointer (some ⟨g0, 0, none⟩) := hn.1
      clear hn
      refine wants_plain rfl ?_
      exact grown_lds (.tmp 5) rfl 0 _ h5 (cell_man (unhide HST w hk)).1
    refine steps_cons (fun a w hk hn => ?_) ?_
    · have h6 : a.eval (.tmp 6) = .string s := hn.1
      clear hn
      refine wants_plain rfl ?_
      exact grown_convS (.tmp 6) s (by have := unhide HSZ; omega) rfl h6
    refine steps_cons (fun a w hk hn => ?_) ?_
    · have h4 : (Full [77]) (a.eval (.tmp 4)) w := hn.1
      have h7 : Sl w (a.eval (.tmp 7)) (nums s) := hn.2.1
      clear hn
      refine wants_plain rfl ?_
      refine grown_call (f := 79) rfl Tryz.func79 (by kernel_rfl) (by kernel_rfl) ?_
      simp only [List.map_toArray, List.map_cons, List.map_nil]
      refine (refbytes_full _ [77] _ (nums s) w h4 (by have := unhide HSZ; rw [nums_len]; simp; omega) h7).mono ?_
      rintro e w' ⟨ao, m, c, rfl, R, K⟩
      exact ⟨_, rfl, K, ⟨ao, m, c, rfl⟩, row_new R hk⟩
    refine steps_cons (fun a w hk hn => ?_) ?_
    · have h1 : a.eval (.tmp 1) = .pointer (some ⟨g0, 0, none⟩) := hn.1
      clear hn
      refine wants_plain rfl ?_
      exact grown_mfld (.tmp 1) 1 (by omega) rfl h1
    refine steps_cons (fun a w hk hn => ?_) ?_
    · have h9 : a.eval (.tmp 9) = .pointer (some ⟨g0, 1, none⟩) := hn.1
      clear hn
      refine wants_plain rfl ?_
      exact grown_ldu (.tmp 9) rfl 1 _ h9 (cell_man (unhide HST w hk)).2.1
    exact trivial
  intro W1 hkW1
  intro v4 h4
  rintro _ rfl
  rintro _ rfl
  intro v7 h7
  intro v8 h8
  rintro _ rfl
  rintro _ rfl
  refine fin_nil ?_
  simp only [Act.put, List.set_cons_zero, List.set_cons_succ, List.setIfInBounds_toArray]
  obtain ⟨⟨a8, m8, c8, e8⟩, R8⟩ := h8
  subst e8
  obtain ⟨B, hB⟩ : ∃ B, B = w0.drew.heap.size := ⟨_, rfl⟩
  rw [← hB] at R8
  obtain ⟨L6, hL6⟩ : ∃ L, L = [77] ++ be2 (nums s).length ++ nums s := ⟨_, rfl⟩
  rw [← hL6] at R8
  have hl6 : L6.length ≤ 1003 := by rw [hL6]; simp only [List.length_append, List.length_cons, List.length_nil, be2, nums_len]; have := unhide HSZ; omega
  have hgB : g0 < B := by rw [hB]; exact (Array.getElem?_eq_some_iff.1 (unhide HG0)).1
  have K1 := (kp_drew w0).trans hkW1
  have hBW : B ≤ W1.heap.size := by rw [hB]; exact hkW1.size
  have HC := hide (refnumM_any (.slice a8 m8 c8) L6 x B W1 R8 hBW (by omega))
  have HK1 := hide ((unhide HK0).trans K1)
  have HR8 := hide R8
  have HL6 := hide hL6
  have HLL := hide hl6
  have HB0 := hide hB
  have HG1 := hide (K1.heap (unhide HG0) (by simp))
  clear h4 h7 hkW1 hL6 hl6 R8 K1 hB HST
  go_wp2_with fail
  refine (unhide HC).mono ?_
  rintro ee w2 ⟨a2, m2, c2, rfl, R2, S2⟩
  have K2 : Kp [] w w2 := (unhide HK1).then S2.1 (fun i hi => .inr (by have := (unhide HR8).own i (by simpa using hi); have := unhide HGW; omega))
  have G2 := S2.1.heap (unhide HG1) (fun hm => by have := (unhide HR8).own g0 (by simpa using hm); omega)
  obtain ⟨L7, hL7⟩ : ∃ L, L = L6 ++ be4 x := ⟨_, rfl⟩
  rw [← hL7] at R2
  have hl7 : L7.length ≤ 1007 := by rw [hL7, List.length_append]; have := unhide HLL; have : (be4 x).length = 4 := rfl; omega
  have hBW2 : B ≤ w2.heap.size := Nat.le_trans hBW S2.1.size
  have hR2 : Row w2.drew B (.slice a2 m2 c2) L7 := R2.kept (kp_drew w2) (by simp)
  have hF2 : Sl w2.drew (.slice af nf cf) f := (unhide HF).kept (K2.trans (kp_drew w2)) (by simp)
  have hNA : Hid (∀ W, Kp [] w W → Sl W (.slice an nn cn) n) := fun W k => (unhide HNt).kept k (by simp)
  have hc2 : w2.cell? ⟨g0, 2, none⟩ = some (.slice af nf cf) := (cell_man G2).2.2.1
  have hc3 : w2.cell? ⟨g0, 3, none⟩ = some (.slice an nn cn) := (cell_man G2).2.2.2
  have HK2 := hide (K2.trans (kp_drew w2))
  have HL7 := hide hL7
  have hbd : L7.length + f.length ≤ 140737488355328 := by have := unhide HFZ; omega
  have hbd2 : (L7 ++ f).length + n.length ≤ 100000000000 := by rw [List.length_append]; have := unhide HFZ; have := unhide HNZ; omega
  have hgl : w.heap.size < B := by have := unhide HGW; omega
  clear HC S2 R2 hL7 hl7 K2 G2 HG1 HR8
  go_wp2_with fail
  go_region_held3 (fun W => W.cell? ⟨g0, 2, none⟩ = some (.slice af nf cf) ∧ W.cell? ⟨g0, 3, none⟩ = some (.slice an nn cn))
    (first
      | go_keep
      | (go_split_ands
         refine ⟨?_, ?_⟩
         · exact s3.1.cell (by assumption) (fun hm => by have := hR2.own g0 (by simpa using hm); omega)
         · exact s3.1.cell (by assumption) (fun hm => by have := hR2.own g0 (by simpa using hm); omega))
      | (go_split_ands
         refine ⟨?_, ?_⟩
         · exact S4.1.cell (by assumption) (fun hm => by have := r3.own g0 (by simpa using hm); omega)
         · exact S4.1.cell (by assumption) (fun hm => by have := r3.own g0 (by simpa using hm); omega)))
    (first
      | (refine step_append_row (by rfl) (.tmp 12) (.tmp 14) (by rfl) B _ L7 (by rfl) hR2 _ f (by rfl) hF2 hbd hBW2 ?_; intro a3 m3 c3 w3 r3 s3; have K3 : Kp [] w w3 := ((unhide HK2).then s3.1 (fun i hi => .inr (by have := hR2.own i (by simpa using hi); omega))))
      | (refine step_callM (by rfl) (by rfl) Tryz.func79 (by kernel_rfl) (by kernel_rfl) ?_; simp only [List.map_toArray, List.map_cons, List.map_nil]; refine (refbytes_any (.slice a3 m3 c3) (L7 ++ f) (.slice an nn cn) n B w3 r3 (by have := s3.1.size; have e : w2.drew.heap.size = w2.heap.size := rfl; omega) hbd2 (unhide hNA w3 K3) (fun W k => unhide hNA W (K3.then k (fun i hi => .inr (by have := r3.own i (by simpa using hi); omega))))).mono ?_; rintro ee w4 ⟨a4, m4, c4, rfl, R4, S4⟩; refine ⟨_, rfl, ?_⟩))
  go_wp2_with fail
  go_ret
  have K4 : Kp [] w w4 := K3.then S4.1 (fun i hi => .inr (by have := r3.own i (by simpa using hi); omega))
  exact ⟨a4, m4, c4, rfl, by rw [unhide HE, ← unhide HL6, ← unhide HL7]; exact owns_rebase R4 (fun i hi => by have := R4.own i hi; omega), K4⟩
set_option maxRecDepth 100000 in
set_option maxHeartbeats 1000000 in
theorem kitem_any (ia iv jf : Int) (w : World) :
    Calls Tryz.prog 15 #[.int .i64 ia, .int .i64 iv, .int .i64 jf] w fun e w' => ∃ ao k c, e = .returned (.slice ao k c) ∧ Row w' w.heap.size (.slice ao k c) (encM (mkM ia iv jf)) ∧ Kp [] w w' := by
  have HM := hide (kman_any ia iv jf w)
  have h1 := mkM_size ia iv jf
  have HR := hide (fun v w1 (h : MV w1 v (mkM ia iv jf)) => rencode_any v (mkM ia iv jf) w1 h (by omega) (by show (hashK _).length ≤ 1000; rw [hashK_len]; omega) (by show [jf % 256].length ≤ 1000; simp))
  clear h1
  go_enter Tryz.func15, Tryz.ntmps15
  go_wp2_with fail
  refine (unhide HM).mono ?_
  rintro ee w1 ⟨x, rfl, V1, K1⟩
  have HC := hide (unhide HR x w1 V1)
  have HK1 := hide K1
  clear V1 K1 HM HR
  go_wp2_with fail
  refine (unhide HC).mono ?_
  rintro ee w2 ⟨a2, m2, c2, rfl, R2, K2⟩
  have HR2 := hide (row_new R2 (unhide HK1))
  have HK2 := hide ((unhide HK1).trans K2)
  clear HC R2 K2
  go_wp2_with fail
  go_ret
  exact ⟨a2, m2, c2, rfl, unhide HR2, unhide HK2⟩
end Go.Proofs.YteabdojjllfcpaaGreat
