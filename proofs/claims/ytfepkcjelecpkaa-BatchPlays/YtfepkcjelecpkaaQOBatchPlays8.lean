/-
  Rows of items (a text and a time, two cells each) that lie from whichever place of their block on: reading, cutting, append onto them, clear.
-/
import Derived.Test.YtfepkcjelecpkaaQC9
import Derived.Test.YtfepkcjelecpkaaQOBatchPlays7
namespace Go.Proofs.Ytfepkcjelecpkaa
open Go.RowKit
open Go.Proofs
set_option linter.unusedVariables false
section
variable {T : TypeId} {w w' : World} {base : Nat} {v v' : Value} {l l' : List It}
end
theorem zerosI_ok (n : Nat) : ∀ u ∈ (Builtin.zeroCells (Value.agg #[.string ⟨#[]⟩, .int .i64 0]).cells n).toList, u.oneCell' = true := by
  intro u hu
  have : u ∈ Builtin.zeroCells (Value.agg #[.string ⟨#[]⟩, .int .i64 0]).cells n := by simpa using hu
  unfold Builtin.zeroCells at this
  simp [Value.cells] at this
  obtain ⟨i, _, rfl⟩ := this
  have : i % 2 = 0 ∨ i % 2 = 1 := by omega
  rcases this with h | h <;> simp [h, Value.oneCell']
/-- clear of a row's beginning: its end stands. -/
theorem run_clearT (T TS : TypeId) (hTS : Try.prog.underlying TS = some (.slice T)) (hi : (Try.prog.info? T).map (fun i => (i.zero, i.size, i.bytes)) = some (some (.agg #[.string ⟨#[]⟩, .int .i64 0]), 2, 24)) (ty : TypeId) (base : Nat) (ao : Option Addr) (n c k : Nat) (l : List It) (w : World) (h : RowT T w base (.slice ao n c) l) (hk : k ≤ n) :
    ∃ w', (Builtin.clear_ #[TS] ty #[.slice ao k c]).run Try.prog w = .ok (.tuple #[]) w' ∧ RowT T w' base (.slice (if c = k then ao else ao.map (·.add (k * 2))) (n - k) (c - k)) (l.drop k) ∧ Kp (Value.slice ao n c).ownBlock.toList w w' := by
  obtain ⟨i0, hi0, hz0, hz1, hz2⟩ := info_parts hi
  have hd := h.drop k hk
  by_cases h0 : k = 0
  · subst h0
    refine ⟨w, ?_, hd, Kp.refl _ _⟩
    cases ao <;> simp [Builtin.clear_, run_underlying hTS]
  · rcases h with ⟨e, rfl⟩ | ⟨g, off, cap, cur, e, h1, h2, h3, h4, h5, h6⟩
    · injection e with e1 e2 e3
      omega
    · injection e with e1 e2 e3
      subst e1 e2 e3
      obtain ⟨Z, hZ⟩ : ∃ Z, Z = (Builtin.zeroCells (Value.agg #[.string ⟨#[]⟩, .int .i64 0]).cells k).toList := ⟨_, rfl⟩
      have hz : Z.length = k * 2 := by rw [hZ]; simp [size_zeroCells, Value.cells]
      have hok : ∀ u ∈ Z, u.oneCell' = true := by rw [hZ]; exact zerosI_ok _
      have hst := run_storeCells_cells (P := Try.prog) g off Z 0 w (fun j hj => by rw [cell_of_cur h2, Array.getElem?_eq_getElem (by omega)]; rfl) (fun j hj => frozen_of_cur h2 _) hok
      rw [Nat.add_zero] at hst
      obtain ⟨cur', a1, a2, a3, a4⟩ := heap_setCells g T Z off w cur h2 (by omega)
      refine ⟨w.setCells g off Z, ?_, ?_, (kp_setsI g _ _ w).mono (by simp [Value.ownBlock])⟩
      · obtain ⟨m, rfl⟩ : ∃ m, k = m + 1 := ⟨k - 1, by omega⟩
        rw [hZ] at hst ⊢
        simp [Builtin.clear_, run_underlying hTS, zeroValue, typeInfo, hi0, hz0, hst]
      · by_cases hck : c = k
        · have hl : l.drop k = [] := List.drop_eq_nil_of_le (by omega)
          rw [hl, if_pos hck]
          refine .inr ⟨g, off, c - k, cur', by congr 1; simp; omega, h1, a1, by simp, by omega, by omega, fun j u hu => ?_⟩
          simp [flatI] at hu
        · rw [if_neg hck]
          simp only [Option.map_some, Addr.add_lit]
          refine .inr ⟨g, off + k * 2, c - k, cur', by rw [List.length_drop], h1, a1, by rw [List.length_drop]; omega, by omega, by omega, fun j u hu => ?_⟩
          rw [flatI_drop, List.getElem?_drop] at hu
          rw [a3 _ (.inr (by omega)), Nat.add_assoc]
          exact h6 _ u hu
theorem Try.infoIm : (Try.prog.info? 49).map (fun i => (i.zero, i.size, i.bytes)) = some (some (.agg #[.string ⟨#[]⟩, .int .i64 0]), 2, 24) := by kernel_rfl
theorem row_lit (w : World) (T : TypeId) (l : List It) (n : Nat) (hn : n = l.length) (hm : n ≤ 1000) : RowT T (w.alloc (.cells (flatI l).toArray T)) w.heap.size (.slice (some ⟨w.heap.size, 0, none⟩) n n) l := by
  subst hn
  refine .inr ⟨w.heap.size, 0, l.length, _, rfl, Nat.le_refl _, heap_alloc_new w _, Nat.le_refl _, by unfold maxLen; omega, by simp [flatI_length], fun j u hu => ?_⟩
  rw [Nat.zero_add]
  simpa using hu
section
variable {w : World} {ao : Option Addr} {n c : Nat}
theorem run_headW (k : Nat) (w : World) (h1 : k ≤ n) (h2 : n ≤ c) (h3 : ao = none → c = 0) : (Instr.sliceAt 43 (.slice ao n c) none (some (.int .i64 k)) none).run Try.prog w = .ok (.slice ao k c) w := by
  have e3 : (k : Int) ≤ (c : Int) := by omega
  cases ao with
  | none =>
    have := h3 rfl
    subst this
    obtain rfl : k = 0 := by omega
    simp [go_sem]
  | some a => simp [go_sem, e3]
theorem run_restW (k : Nat) (w : World) (h1 : k ≤ n) (h2 : n ≤ c) (h3 : ao = none → c = 0) : (Instr.sliceAt 43 (.slice ao n c) (some (.int .i64 k)) none none).run Try.prog w = .ok (.slice (if c = k then ao else ao.map (·.add (k * 2))) (n - k) (c - k)) w := by
  have e3 : (k : Int) ≤ (n : Int) := by omega
  cases ao with
  | none =>
    have := h3 rfl
    subst this
    obtain rfl : k = 0 := by omega
    obtain rfl : n = 0 := by omega
    simp [go_sem]
  | some a =>
    by_cases hc : c = k
    · subst hc
      obtain rfl : n = c := by omega
      simp [go_sem]
    · simp [go_sem, e3, hc]
theorem run_restI (k : Nat) (w : World) (h1 : k ≤ n) (h2 : n ≤ c) (h3 : ao = none → c = 0) : (Instr.sliceAt 46 (.slice ao n c) (some (.int .i64 k)) none none).run Try.prog w = .ok (.slice (if c = k then ao else ao.map (·.add (k * 2))) (n - k) (c - k)) w := by
  have e3 : (k : Int) ≤ (n : Int) := by omega
  cases ao with
  | none =>
    have := h3 rfl
    subst this
    obtain rfl : k = 0 := by omega
    obtain rfl : n = 0 := by omega
    simp [go_sem]
  | some a =>
    by_cases hc : c = k
    · subst hc
      obtain rfl : n = c := by omega
      simp [go_sem]
    · simp [go_sem, e3, hc]
end
end Go.Proofs.Ytfepkcjelecpkaa

/-
  Package batch's queue in memory; the contracts of New, Len, Put.
-/
namespace Go.Proofs.Ytfepkcjelecpkaa
open Go.RowKit
open Go.Proofs
set_option linter.unusedVariables false
section
variable {T : TypeId} {w w' : World} {p : Nat} {a b c d : Value}
theorem Fo.c2 (h : Fo T w p a b c d) : w.cell? ⟨p, 2, none⟩ = some c := by rw [cell_of_row w p 2 _ _ _ h]; rfl
end
section
variable {w w' w1 : World} {base p : Nat} {v v' : Value} {q q' : Qd}
end
section
variable {w : World} {base : Nat} {v vx : Value} {l l' : List It}
theorem wpList_appT {ops : Array Oper} {rest : List Oper} {o : Oper} {a : Act} {Q : Exit → Act → World → Prop} (hgd : o.guard = none) (T TS : TypeId) (hTS : Try.prog.underlying TS = some (.slice T)) (hi : (Try.prog.info? T).map (fun i => (i.zero, i.size, i.bytes)) = some (some (.agg #[.string ⟨#[]⟩, .int .i64 0]), 2, 24)) (s x : Operand)
    (ho : o.op = .call { callee := .builtin .append, args := #[s, x], argTypes := #[TS, TS] }) (base : Nat) (v : Value) (l : List It) (hs : a.eval s = v) (hr : RowT T w base v l) (vx : Value) (l' : List It) (hx : a.eval x = vx) (hS : SrcI w vx l') (hb : l.length + l'.length ≤ 1000000) (hbase : base ≤ w.heap.size)
    (h : ∀ ao m c w', RowT T w' base (.slice ao m c) (l ++ l') → RStep w v w' (.slice ao m c) → wpList Try.prog ops Q rest (a.put o.dst (.slice ao m c)) w') : wpList Try.prog ops Q (o :: rest) a w := by
  refine wpList_plain hgd fun K hK => ?_
  obtain ⟨ao, m, c, w1, hrun, h1, h2⟩ := run_appT T TS hTS hi o.type base v vx l l' w hr hS hb hbase
  unfold Oper.wp execOp
  simp only [ho, resolve, invoke, builtin, Sem.run_bind, Sem.run_pure, Result.andThen_ok, List.map_toArray, List.map_cons, List.map_nil, hs, hx, hrun]
  exact hK _ _ (h ao m c w1 h1 h2)
end
set_option maxHeartbeats 2000000 in
theorem bput_full (base p : Nat) (v vb : Value) (q : Qd) (now : Int) (w : World) (h : Qm w base p v q) (hf : q.room ≤ q.ms.length) :
    Calls Try.prog 12 #[.pointer (some ⟨p, 0, none⟩), vb, .int .i64 now] w fun e w' => e = .returned (.int .i64 20) ∧ Kp [] w w' := by
  obtain ⟨n, hn⟩ : ∃ n, n = q.ms.length := ⟨_, rfl⟩
  have HL := hide (fun k => blen_any base p v q _ (h.drewN k) n hn)
  obtain ⟨r, hr⟩ : ∃ r, r = q.room := ⟨_, rfl⟩
  have hc := h.here.c0
  rw [← hr] at hc hf
  rw [← hn] at hf
  clear h hn hr
  go_enter Try.func12, Try.ntmps12
  go_wp2_with fail
  go_quiet (first | (go_at_call 13; exact Calls.quiet_of_same (HL.out _)))
  go_wp2_with fail
  go_ret
  exact ⟨rfl, kp_drewN _ _⟩
end Go.Proofs.Ytfepkcjelecpkaa

/-
  The contract of package batch's texts.
-/
namespace Go.Proofs.Ytfepkcjelecpkaa
open Go.RowKit
open Go.Proofs
set_option linter.unusedVariables false
theorem Tl.lower {B B' : Nat} {w : World} {v : Value} {ls : List (List Int)} (h : Tl B w v ls) (hB : B' ≤ B) : Tl B' w v ls := by
  obtain ⟨l, ⟨h1, h2⟩, h3, h4⟩ := h
  exact ⟨l, ⟨owns_rebase h1 (fun i hi => Nat.le_trans hB (h1.own i hi)), h2⟩, h3, fun x hx i hi => Nat.le_trans hB (h4 x hx i hi)⟩
/-- one more slice, that is new since the gathering's last step. -/
theorem wpList_accn {w wr w2 : World} {ops : Array Oper} {rest : List Oper} {o : Oper} {a : Act} {Q : Exit → Act → World → Prop} (hgd : o.guard = none) (s x : Operand)
    (ho : o.op = .call { callee := .builtin .append, args := #[s, x], argTypes := #[36, 36] }) (v : Value) (ls : List (List Int)) (hs : a.eval s = v) (hA : AccN w ls v wr) (hl : ls.length ≤ 1000000)
    (vx : Value) (bs : List Int) (k : Kp [] wr w2) (hSl : Sl w2 vx bs) (hnew : ∀ i, vx.ownBlock = some i → wr.heap.size ≤ i ∧ i < w2.heap.size) (hb : Bs bs) (hx : a.eval x = .slice (some ⟨w2.heap.size, 0, none⟩) 1 1)
    (h : ∀ ao m c w', AccN w (ls ++ [bs]) (.slice ao m c) w' → wpList Try.prog ops Q rest (a.put o.dst (.slice ao m c)) w') : wpList Try.prog ops Q (o :: rest) a (w2.alloc (.cells #[vx] 28)) := by
  obtain ⟨⟨l, hP, hl2, hN⟩, hK⟩ := hA
  have kk := k.trans ((Kp.refl [] w2).alloc (.cells #[vx] 28))
  have hP2 := hP.kept kk
  have hap : ∀ i, vx.ownBlock = some i → v.ownBlock = some i → bs = [] := fun i h1 h2 => by
    have := hP.1.lt h2
    have := hnew i h1
    omega
  obtain ⟨ax, cx, hvx, _⟩ := id hSl
  refine wpList_append_rowv hgd s x ho w.heap.size v (l.map (·.1)) hs hP2.1 ⟨w2.heap.size, 0, none⟩ 1 [vx] hx ?_ ?_ ?_ ?_ ?_
  · intro j u hu
    exact World.news_of_block (heap_alloc_new w2 _) j u (by simpa using hu)
  · simp [hvx, Value.oneCell']
  · have : l.length = ls.length := by rw [← hl2]; simp
    simp; omega
  · have := hK.size
    have := kk.size
    omega
  · intro ao m c w' r st
    have hSl2 : Sl (w2.alloc (.cells #[vx] 28)) vx bs := hSl.kept ((Kp.refl [] w2).alloc _) (by simp)
    refine h ao m c w' ⟨⟨l ++ [(vx, bs)], hP2.snocR (x := (vx, bs)) hSl2 hb hap r st, by simp [hl2], fun y hy i hi => ?_⟩, ?_⟩
    · rcases List.mem_append.1 hy with hy | hy
      · exact hN y hy i hi
      · obtain rfl : y = (vx, bs) := by simpa using hy
        have := hK.size
        have := (hnew i hi).1
        omega
    · exact (hK.trans kk).then st.1 (fun i hi => .inr (hP.1.own i (by simpa using hi)))
set_option maxHeartbeats 4000000 in
set_option maxRecDepth 100000 in
theorem btexts_any (base : Nat) (ao : Option Addr) (n c : Nat) (l : List It) (w : World) (h : RowT 52 w base (.slice ao n c) l) (hl : l.length ≤ 1000) (hok : ∀ e ∈ l, e.Ok) :
    Calls Try.prog 20 #[.slice ao n c] w fun e w' => ∃ ao' m' c', e = .returned (.slice ao' m' c') ∧ AccN w (l.map It.bs) (.slice ao' m' c') w' := by
  obtain ⟨hn, -, -⟩ := h.len
  obtain ⟨i0, hi0, hz0, hz1, hz2⟩ := info_parts Try.infoSl
  have H := hide h
  have HN := hide hn
  have HOK := hide hok
  rw [← hn] at hl
  clear h hok hn
  go_enter Try.func20, Try.ntmps20
  go_wp2_with (at_make; refine wpList_make_own _ rfl _ _ 36 rfl w.heap.size 28 i0 (.slice none 0 0) 1 Try.underlying36 hi0 hz0 hz1 .i64 .i64 _ n rfl rfl (by omega) (by rw [hz2]; omega) (by unfold maxLen; omega) (Nat.le_refl _) ?_; intro w1 o1 g1; have K1 : Kp [] w w1 := (Kp.refl [] w).grown g1 (by intro k hk; cases hk); have R1 : RowV w1 w.heap.size _ [] := o1)
  have A1 : Hid (AccN w [] (.slice (some ⟨w.heap.size, 0, none⟩) 0 n) w1) := ⟨⟨[], ⟨R1, by simp⟩, rfl, by simp⟩, K1⟩
  clear o1 g1 R1 K1
  go_loopw [3, 11] (fun v i wr => ∃ (k m c' : Nat) (a' : Option Addr), k ≤ n ∧ v = .slice a' m c' ∧ i = .int .i64 k ∧ AccN w ((l.take k).map It.bs) v wr) (fun _ i _ => n - (intOf i).toNat)
  case atStart => exact ⟨0, 0, n, some ⟨w.heap.size, 0, none⟩, by omega, rfl, rfl, A1.out⟩
  case round =>
    obtain ⟨k, m, c', a', hk, rfl, rfl, A⟩ := hrel
    have HA := hide A
    clear A A1
    by_cases hlt : k < n
    · have hlt2 : (k : Int) < (n : Int) := by omega
      have hkl : k < l.length := by rw [← HN.out]; exact hlt
      obtain ⟨g, off, rfl, c0, c1⟩ := (H.out.keptN HA.out.kp).at k hkl
      have hx := HOK.out l[k] (List.getElem_mem hkl)
      have ht : Hid ((l.take (k + 1)).map It.bs = (l.take k).map It.bs ++ [l[k].bs]) := by
        show _ = _
        rw [List.take_succ_eq_append_getElem hkl, List.map_append]
        rfl
      have HLT : Hid (((l.take k).map It.bs).length ≤ 1000000) := by show _ ≤ _; simp; omega
      obtain ⟨x, hxe⟩ : ∃ x, x = l[k] := ⟨_, rfl⟩
      rw [← hxe] at c0 c1 hx ht
      obtain ⟨S, hS⟩ : ∃ S, S = strOfNums x.bs := ⟨_, rfl⟩
      rw [← hS] at c0
      have HS := hide hS
      have HX := hide hx
      clear hxe hS hx
      have KA := hide ((Kp.refl [] wr).alloc (.cells #[.string S, .int .i64 x.at_] 52))
      obtain ⟨c5, w5, hcv, S5, K5⟩ := conv_big S (wr.alloc (.cells #[.string S, .int .i64 x.at_] 52)) (by rw [HS.out, str_size]; have := HX.out.2.1; omega)
      rw [HS.out, nums_str x.bs HX.out.1, ← HS.out] at S5
      have HS5 := hide S5
      have HK5 := hide (KA.out.trans K5)
      have hsz2 : Hid (wr.heap.size + 1 < w5.heap.size) := by
        have h5 := Lib.run_convert_string_bytes (P := Try.prog) (wr.alloc (.cells #[.string S, .int .i64 x.at_] 52)) 9 28 5 S Try.underlying9 Try.underlying28 Try.underlying5
        rw [hcv] at h5
        injection h5 with _ e5
        show _ < _
        rw [e5, Lib.bytesWorld_size]
        simp
      have esz : (wr.alloc (.cells #[.string S, .int .i64 x.at_] 52)).heap.size = wr.heap.size + 1 := by simp
      rw [esz] at hcv HS5
      clear esz
      have HNW : Hid (∀ i, (Value.slice (some ⟨wr.heap.size + 1, 0, none⟩) S.size c5).ownBlock = some i → wr.heap.size ≤ i ∧ i < w5.heap.size) := fun i hi => by
        have e : wr.heap.size + 1 = i := by simpa [Value.ownBlock] using hi
        have := hsz2.out
        omega
      clear S5 K5
      go_wp2_with (at_builtin; refine wpList_accn rfl (.tmp 15) (.tmp 19) rfl _ _ rfl HA.out HLT.out (.slice (some ⟨wr.heap.size + 1, 0, none⟩) S.size c5) x.bs HK5.out HS5.out HNW.out HX.out.1 rfl ?_; intro ao4 m4 c4 w4 A4; rw [← ht.out] at A4; have HA4 := hide A4; clear A4)
      go_roundw
      case rel => exact ⟨k + 1, m4, c4, ao4, by omega, rfl, by go_num, HA4.out⟩
      case measure => simp [intOf]; omega
    · have hkn : k = n := by omega
      have hnlt : ¬ (k : Int) < (n : Int) := by omega
      have HF : Hid (AccN w (l.map It.bs) (.slice a' m c') wr) := by
        have := HA.out
        rw [hkn, HN.out, List.take_length] at this
        exact this
      clear hkn HA
      go_wp2_with fail
      go_ret
      exact ⟨a', m, c', rfl, HF.out⟩
end Go.Proofs.Ytfepkcjelecpkaa

/-
  The contracts of package batch: Take, All.
-/
namespace Go.Proofs.Ytfepkcjelecpkaa
open Go.RowKit
open Go.Proofs
set_option linter.unusedVariables false
theorem ball_any (base p : Nat) (v : Value) (q : Qd) (w : World) (h : Qm w base p v q) :
    Calls Try.prog 18 #[.pointer (some ⟨p, 0, none⟩)] w fun e w' => ∃ ao' m' c', e = .returned (.slice ao' m' c') ∧ AccN w (q.ms.map It.bs) (.slice ao' m' c') w' := by
  have hc := h.here.c3
  obtain ⟨ao, c, rfl, -⟩ := h.shape
  have HT := hide (btexts_any base ao q.ms.length c q.ms w h.row h.fit.cnt h.fit.its)
  obtain ⟨n, hn⟩ : ∃ n, n = q.ms.length := ⟨_, rfl⟩
  rw [← hn] at hc HT
  clear h hn
  go_enter Try.func18, Try.ntmps18
  go_wp2_with (go_at_call 20; refine HT.out.mono ?_; rintro e w1 ⟨ao', m', c', rfl, A⟩; have HA := hide A; clear A)
  go_ret
  exact ⟨ao', m', c', rfl, HA.out⟩
theorem own_rest (ao : Option Addr) (n c k : Nat) : (Value.slice (if c = k then ao else ao.map (·.add (k * 2))) (n - k) (c - k)).ownBlock = (Value.slice ao n c).ownBlock := by
  cases ao with
  | none => split <;> rfl
  | some a =>
    split
    · rfl
    · simp [Value.ownBlock, add_block]
set_option maxHeartbeats 4000000 in
set_option maxRecDepth 100000 in
theorem btake_any (base p : Nat) (v : Value) (q : Qd) (w : World) (h : Qm w base p v q) (k : Nat) (hk : k = min q.size.toNat q.ms.length) :
    Calls Try.prog 14 #[.pointer (some ⟨p, 0, none⟩)] w fun e w' => ∃ ao' m' c' v', e = .returned (.slice ao' m' c') ∧ Tl w.heap.size w' (.slice ao' m' c') ((q.ms.take k).map It.bs) ∧ Qm w' base p v' { q with ms := q.ms.drop k } ∧ DSt p w v w' v' := by
  obtain ⟨ao, c, rfl, hc1, hc2, hc3⟩ := h.shape
  obtain ⟨n, hn⟩ : ∃ n, n = q.ms.length := ⟨_, rfl⟩
  obtain ⟨r, hr⟩ : ∃ r, r = q.room := ⟨_, rfl⟩
  obtain ⟨s, hs⟩ : ∃ s, s = q.size := ⟨_, rfl⟩
  obtain ⟨t, ht⟩ : ∃ t, t = q.wait := ⟨_, rfl⟩
  rw [← hn] at h hk hc1 ⊢
  have HP : Hid (∀ w', Kp [] w.drew w' → w'.heap[p]? = some (.cells #[.int .i64 r, .int .i64 s, .int .i64 t, .slice ao n c] 45 (0, 0))) := fun w' k' => by
    rw [hr, hs, ht]; exact (h.keptN ((kp_drew w).trans k')).here
  have HQ : Hid (∀ w', Kp [] w.drew w' → Calls Try.prog 13 #[.pointer (some ⟨p, 0, none⟩)] w' fun e w'' => e = .returned (.int .i64 (n : Nat)) ∧ w'' = w') := fun w' k' => blen_any base p _ q w' (h.keptN ((kp_drew w).trans k')) n hn
  have hs0 := h.fit.s0
  rw [← hs] at hs0 hk
  have hmin : (k : Int) = if (n : Int) < s then (n : Int) else s := by split <;> omega
  have hkn : k ≤ n := by omega
  have H := hide h
  have HC1 := hide hc1
  have HC3 := hide hc3
  have HCN : Hid ((q.ms.take k).length ≤ 1000) := by have := h.fit.cnt; show _ ≤ _; simp; omega
  have HIT : Hid (∀ e ∈ q.ms.take k, e.Ok) := fun e he => h.fit.its e (List.mem_of_mem_take he)
  have HF : Hid (Qd.Fit { q with ms := q.ms.drop k }) := ⟨h.fit.r0, h.fit.r1, h.fit.s0, h.fit.s1, h.fit.t0, h.fit.t1, by have := h.fit.cnt; simp; omega, fun e he => h.fit.its e (List.mem_of_mem_drop he)⟩
  have HMIN := hide hmin
  have HKN := hide hkn
  clear h hn hr hs ht hs0 hk hc1 hc2 hc3 hmin hkn
  go_enter Try.func14, Try.ntmps14
  go_wp2_with fail
  refine region_grow Try.mixed [Is (.pointer (some ⟨p, 0, none⟩)), Is (.pointer (some ⟨p, 0, none⟩)), Is (.pointer (some ⟨p, 1, none⟩)), Is (.int .i64 s), Is (.pointer (some ⟨p, 0, none⟩)), Is (.int .i64 n), Is (.int .i64 k), Is (.int .i64 k)] [[(0, none)], [(5, some 0)], [(6, some 1)], [(7, some 2)], [(0, none)], [(9, some 4)], [(8, some 3), (10, some 5)], [(11, some 6)]] (by kernel_rfl) ?_ ?_ ?_
  · simp only [List.mem_cons, List.not_mem_nil, or_false]
    intro R hR
    rcases hR with rfl | rfl | rfl | rfl | rfl | rfl | rfl | rfl <;> first | exact stable_is _
  · refine steps_cons (fun a w hk hn => ?_) ?_
    · have h0 : a.eval (.tmp 0) = .pointer (some ⟨p, 0, none⟩) := hn.1
      clear hn
      refine wants_plain rfl ?_
      exact grown_move (.tmp 0) rfl h0
    refine steps_cons (fun a w hk hn => ?_) ?_
    · have h5 : a.eval (.tmp 5) = .pointer (some ⟨p, 0, none⟩) := hn.1
      clear hn
      refine wants_plain rfl ?_
      refine grown_run (v := .pointer (some ⟨p, 0, none⟩)) ?_ (Kp.refl _ _) rfl
      obtain ⟨ρ, hρ, hc, hf, hg⟩ := eval_is a
      rw [hρ] at h5 ⊢
      simp [go_sem, h5]
    refine steps_cons (fun a w hk hn => ?_) ?_
    · have h6 : a.eval (.tmp 6) = .pointer (some ⟨p, 0, none⟩) := hn.1
      clear hn
      refine wants_plain rfl ?_
      refine grown_run (v := .pointer (some ⟨p, 1, none⟩)) ?_ (Kp.refl _ _) rfl
      obtain ⟨ρ, hρ, hc, hf, hg⟩ := eval_is a
      rw [hρ] at h6 ⊢
      simp [go_sem, h6]
    refine steps_cons (fun a w hk hn => ?_) ?_
    · have h7 : a.eval (.tmp 7) = .pointer (some ⟨p, 1, none⟩) := hn.1
      clear hn
      refine wants_plain rfl ?_
      refine grown_run (v := .int .i64 s) ?_ (Kp.refl _ _) rfl
      have hcell : w.cell? ⟨p, 1, none⟩ = some (.int .i64 s) := by rw [cell_of_row w p 1 _ _ _ (unhide HP w hk)]; rfl
      obtain ⟨ρ, hρ, hc, hf, hg⟩ := eval_is a
      rw [hρ] at h7 ⊢
      simp [go_sem, h7, hcell]
    refine steps_cons (fun a w hk hn => ?_) ?_
    · have h0 : a.eval (.tmp 0) = .pointer (some ⟨p, 0, none⟩) := hn.1
      clear hn
      refine wants_plain rfl ?_
      exact grown_move (.tmp 0) rfl h0
    refine steps_cons (fun a w hk hn => ?_) ?_
    · have h9 : a.eval (.tmp 9) = .pointer (some ⟨p, 0, none⟩) := hn.1
      clear hn
      refine wants_plain rfl ?_
      refine grown_call (f := 13) rfl Try.func13 (by kernel_rfl) (by kernel_rfl) ?_
      simp only [List.map_toArray, List.map_cons, List.map_nil, h9]
      refine (unhide HQ w hk).mono ?_
      rintro e w' ⟨rfl, rfl⟩
      exact ⟨_, rfl, Kp.refl _ _, rfl⟩
    refine steps_cons (fun a w hk hn => ?_) ?_
    · have h8 : a.eval (.tmp 8) = .int .i64 s := hn.1
      have h10 : a.eval (.tmp 10) = .int .i64 n := hn.2.1
      clear hn
      refine wants_plain rfl ?_
      refine grown_run (v := .int .i64 k) ?_ (Kp.refl _ _) rfl
      obtain ⟨ρ, hρ, hc, hf, hg⟩ := eval_is a
      rw [hρ] at h8 h10 ⊢
      simp [go_sem, h8, h10, HMIN.out]
    refine steps_cons (fun a w hk hn => ?_) ?_
    · have h11 : a.eval (.tmp 11) = .int .i64 k := hn.1
      clear hn
      refine wants_plain rfl ?_
      exact grown_assign (.tmp 11) rfl h11
    exact trivial
  intro W1 hkW1
  rintro _ rfl
  rintro _ rfl
  rintro _ rfl
  rintro _ rfl
  rintro _ rfl
  rintro _ rfl
  rintro _ rfl
  rintro _ rfl
  refine fin_nil ?_
  simp only [Act.put, List.set_cons_zero, List.set_cons_succ, List.setIfInBounds_toArray]
  have K1 := hide ((kp_drew w).trans hkW1)
  have H1 := hide (H.out.keptN K1.out)
  have x0 := H1.out.here.c3
  have run1 := fun w => run_headW (ao := ao) (n := n) (c := c) k w HKN.out HC1.out HC3.out
  have HT := hide (btexts_any base ao k c (q.ms.take k) W1 (H1.out.row.take k HKN.out) HCN.out HIT.out)
  have run2 := fun w => run_restW (ao := ao) (n := n) (c := c) k w HKN.out HC1.out HC3.out
  clear HP HQ hkW1 H HMIN
  go_wp2_with (go_at_call 20; refine HT.out.mono ?_; rintro e w2 ⟨ao', m', c', rfl, A⟩; have HA := hide A; clear A HT; obtain ⟨w3, hcl, r3, k3⟩ := run_clearT 52 43 Try.underlying43 Try.infoWt 0 base ao n c k q.ms w2 (H1.out.row.keptN HA.out.kp) HKN.out; have hcl' : ∀ ty, (Builtin.clear_ #[43] ty #[.slice ao k c]).run Try.prog w2 = .ok (.tuple #[]) w3 := fun ty => hcl; have x2 := (H1.out.keptN HA.out.kp).here.c3; have hV3 := own_rest ao n c k; obtain ⟨a2, ha2⟩ : ∃ a2, a2 = (if c = k then ao else ao.map (·.add (k * 2))) := ⟨_, rfl⟩; obtain ⟨n2, hn2⟩ : ∃ n2, n2 = n - k := ⟨_, rfl⟩; obtain ⟨c2, hc2⟩ : ∃ c2, c2 = c - k := ⟨_, rfl⟩; rw [← ha2, ← hn2, ← hc2] at hV3 run2 r3; obtain ⟨Q3, D3, x3, f3⟩ := (H1.out.keptN HA.out.kp).put (q' := { q with ms := q.ms.drop k }) r3 ⟨k3, fun i hi => .inl (by rw [← hV3]; exact hi)⟩ rfl rfl rfl HF.out; have HQ3 := hide Q3; have HD3 := hide D3; clear ha2 hn2 hc2 hV3 r3 k3 Q3 D3 hcl)
  go_ret
  refine ⟨ao', m', c', _, rfl, ?_, HQ3.out, ?_⟩
  · exact (HA.out.1.kept HD3.out.1 (fun i hi => H1.out.lt i hi)).lower K1.out.size
  · exact (DSt.mid _ (K1.out.trans HA.out.kp)).trans HD3.out
end Go.Proofs.Ytfepkcjelecpkaa

/-
  The contract of package batch's Back.
-/
namespace Go.Proofs.Ytfepkcjelecpkaa
open Go.RowKit
open Go.Proofs
set_option linter.unusedVariables false
theorem RowT.of_owns {T : TypeId} {w : World} {base : Nat} {v : Value} {l : List It} (h : w.ownsRow base T 2 v l.length (flatI l)) : RowT T w base v l := by
  rcases h.2 with ⟨rfl, h0⟩ | ⟨g, cap, cur, rfl, hb, hg, hn, hm, hs, ht⟩
  · exact .inl ⟨rfl, List.eq_nil_of_length_eq_zero h0⟩
  · refine .inr ⟨g, 0, cap, cur, rfl, hb, hg, hn, hm, by omega, fun j u hu => ?_⟩
    rw [← ht, List.getElem?_take] at hu
    split at hu
    · rw [Nat.zero_add]
      simpa using hu
    · cases hu
/-- since ever. -/
def evr (bs : List Int) : It := ⟨bs, -9223372036854775808⟩
set_option maxHeartbeats 4000000 in
set_option maxRecDepth 100000 in
theorem bback_any (base p : Nat) (v vi : Value) (q : Qd) (li : List (Value × List Int)) (w : World) (h : Qm w base p v q) (hL : Lists w vi li) (hli : ∀ x ∈ li, x.2.length ≤ 1000) (hn : q.ms.length + li.length ≤ 1000) (hbase : base ≤ w.heap.size) :
    Calls Try.prog 15 #[.pointer (some ⟨p, 0, none⟩), vi] w fun e w' => e = .returned (.tuple #[]) ∧ ∃ v', Qm w' base p v' { q with ms := (li.map (fun x => evr x.2)) ++ q.ms } ∧ DSt p w v w' v' := by
  obtain ⟨n, hnn⟩ : ∃ n, n = q.ms.length := ⟨_, rfl⟩
  have HLen := hide (blen_any base p v q w h n hnn)
  obtain ⟨i0, hi0, hz0, hz1, hz2⟩ := info_parts Try.infoWt
  obtain ⟨ai, ci, rfl, hm1, hm2⟩ := id hL
  obtain ⟨m, hm⟩ : ∃ m, m = li.length := ⟨_, rfl⟩
  rw [← hm] at hm1 hn ⊢
  have HM := hide hm
  have HN := hide hnn
  have H := hide h
  have HLI := hide hli
  have HL2 := hide hm2
  have HB := hide hbase
  rw [← hnn] at hn
  have hnm : n + m ≤ 1000 := by omega
  clear hm2 hm hnn h hli hbase hL hn
  go_enter Try.func15, Try.ntmps15
  go_wp2_with (first
    | (go_at_call 13; refine HLen.out.mono ?_; rintro e w1 ⟨rfl, hw⟩; subst w1)
    | (at_make; refine wpList_make_own _ rfl _ _ 43 rfl w.heap.size 52 i0 (.agg #[.string ⟨#[]⟩, .int .i64 0]) 2 Try.underlying43 hi0 hz0 hz1 .i64 .i64 _ (m + n) rfl rfl (by omega) (by rw [hz2]; omega) (by unfold maxLen; omega) (Nat.le_refl _) ?_; intro w1 o1 g1; have K1 : Kp [] w w1 := (Kp.refl [] w).grown g1 (by intro k hk; cases hk); have R1 : RowT 52 w1 w.heap.size _ [] := RowT.of_owns o1; have HR1 := hide R1; have HK1 := hide K1; clear o1 g1 R1 K1))
  clear HLen
  go_loopw [4, 15] (fun u i wr => ∃ (k j c : Nat) (a : Option Addr), k ≤ m ∧ u = .slice a j c ∧ i = .int .i64 k ∧ RowT 52 wr w.heap.size (.slice a j c) ((li.take k).map (fun x => evr x.2)) ∧ Kp [] w wr) (fun _ i _ => m - (intOf i).toNat)
  case atStart => exact ⟨0, 0, m + n, some ⟨w.heap.size, 0, none⟩, by omega, rfl, rfl, HR1.out, HK1.out⟩
  case round =>
    obtain ⟨k, j, c, a, hk, rfl, rfl, R, K⟩ := hrel
    have HR := hide R
    have HK := hide K
    clear R K HR1 HK1
    by_cases hlt : k < m
    · have hlt2 : (k : Int) < (m : Int) := by omega
      have hkl : k < li.length := by rw [← HM.out]; exact hlt
      obtain ⟨b, off, rfl, c0, hS, hB⟩ := HL2.out k hkl
      have hlx := HLI.out li[k] (List.getElem_mem hkl)
      have ht : Hid ((li.take (k + 1)).map (fun x => evr x.2) = (li.take k).map (fun x => evr x.2) ++ [evr li[k].2]) := by
        show _ = _
        rw [List.take_succ_eq_append_getElem hkl, List.map_append]
        rfl
      have HLT : Hid (((li.take k).map (fun x => evr x.2)).length + [evr li[k].2].length ≤ 1000000) := by show _ ≤ _; simp; omega
      obtain ⟨x, hxe⟩ : ∃ x, x = li[k] := ⟨_, rfl⟩
      rw [← hxe] at c0 hS hB hlx ht HLT
      have d0 := HK.out.cell c0 (by simp)
      obtain ⟨S, hSS⟩ : ∃ S, S = strOfNums x.2 := ⟨_, rfl⟩
      have cv := (hS.kept HK.out (by simp)).conv (P := Try.prog) 28 9 5 Try.underlying28 Try.underlying5 Try.underlying9
      rw [← hSS] at cv
      obtain ⟨ax, cx, ex, -⟩ := hS
      obtain ⟨nx, hnx⟩ : ∃ nx, nx = x.2.length := ⟨_, rfl⟩
      rw [← hnx] at ex
      rw [ex] at d0 cv
      have LIT : Hid (SrcI (wr.alloc (.cells #[.string S, .int .i64 (-9223372036854775808)] 52)) (.slice (some ⟨wr.heap.size, 0, none⟩) 1 1) [evr x.2]) := by
        have := src_lit wr 52 [evr x.2] 1 rfl
        have e : (flatI [evr x.2]).toArray = #[.string S, .int .i64 (-9223372036854775808)] := by rw [hSS]; rfl
        rw [e] at this
        exact this
      have KA := hide ((Kp.refl [] wr).alloc (.cells #[.string S, .int .i64 (-9223372036854775808)] 52))
      have R0 := hide (HR.out.keptN KA.out)
      have HSZ : Hid (w.heap.size ≤ (wr.alloc (.cells #[.string S, .int .i64 (-9223372036854775808)] 52)).heap.size) := Nat.le_trans HK.out.size KA.out.size
      clear hxe c0 hSS ex hnx hB hlx
      go_wp2_with (at_builtin; refine wpList_appT rfl 52 43 Try.underlying43 Try.infoWt (.tmp 19) (.tmp 23) rfl w.heap.size (.slice a j c) _ rfl R0.out (.slice (some ⟨wr.heap.size, 0, none⟩) 1 1) _ rfl LIT.out HLT.out HSZ.out ?_; intro a2 m2 c2 w2 R2 S2; rw [← ht.out] at R2; have HR2 := hide R2; have HK2 := hide ((HK.out.trans KA.out).then S2.1 (fun i hi => .inr (R0.out.own (by simpa using hi)))); clear R2 S2)
      go_roundw
      case rel => exact ⟨k + 1, m2, c2, a2, by omega, rfl, by go_num, HR2.out, HK2.out⟩
      case measure => simp [intOf]; omega
    · have hkn : k = m := by omega
      have hnlt : ¬ (k : Int) < (m : Int) := by omega
      have HF : Hid (RowT 52 wr w.heap.size (.slice a j c) (li.map (fun x => evr x.2))) := by
        have := HR.out
        rw [hkn, HM.out, List.take_length] at this
        exact this
      have HLI2 : Hid (∀ x ∈ li, Bs x.2) := fun x hx => by
        obtain ⟨i, hi, rfl⟩ := List.getElem_of_mem hx
        obtain ⟨_, _, _, _, _, hB⟩ := HL2.out i hi
        exact hB
      have FIT : Hid (Qd.Fit { q with ms := (li.map (fun x => evr x.2)) ++ q.ms }) := by
        have f := H.out.fit
        refine ⟨f.r0, f.r1, f.s0, f.s1, f.t0, f.t1, by have := HM.out; have := HN.out; simp; omega, fun e he => ?_⟩
        rcases List.mem_append.1 he with he | he
        · obtain ⟨x, hx, rfl⟩ := List.mem_map.1 he
          exact ⟨HLI2.out x hx, HLI.out x hx, by simp [evr], by simp [evr]⟩
        · exact f.its e he
      have H1 := hide (H.out.keptN HK.out)
      have x0 := H1.out.here.c3
      obtain ⟨av, cv, ev, -⟩ := H1.out.shape
      have HSZ : Hid (w.heap.size ≤ wr.heap.size) := HK.out.size
      have HLT : Hid ((li.map (fun x => evr x.2)).length + q.ms.length ≤ 1000000) := by have := HM.out; have := HN.out; show _ ≤ _; simp; omega
      rw [← HN.out] at ev
      clear hkn HR
      subst ev
      go_wp2_with (at_builtin; refine wpList_appT rfl 52 43 Try.underlying43 Try.infoWt (.tmp 27) (.tmp 31) rfl w.heap.size (.slice a j c) _ rfl HF.out (.slice av n cv) q.ms rfl H1.out.row.src HLT.out HSZ.out ?_; intro a2 m2 c2 w2 R2 S2; have K2 : Kp [] w w2 := HK.out.then S2.1 (fun i hi => .inr (HF.out.own (by simpa using hi))); obtain ⟨Q3, D3, x3, f3⟩ := H.out.put (q' := { q with ms := (li.map (fun x => evr x.2)) ++ q.ms }) (R2.rebase (base' := base) (fun i hi => Nat.le_trans HB.out (R2.own hi))) ⟨K2.mono (by simp), fun i hi => .inr (R2.own hi)⟩ rfl rfl rfl FIT.out; have HQ3 := hide Q3; have HD3 := hide D3; clear R2 S2 K2 Q3 D3)
      go_end0
      exact ⟨rfl, _, HQ3.out, HD3.out⟩
end Go.Proofs.Ytfepkcjelecpkaa

/-
  A queue made since w0, with whatever row; the law package's known.
-/
namespace Go.Proofs.Ytfepkcjelecpkaa
open Go.ChangeShapes Go.WideShapes Go.ChangeAt Go.RowKit
open Go.Proofs
open Go.Deep
set_option linter.unusedVariables false
section
variable {w0 w w' : World} {p : Nat} {q q' : Qd} {v v' : Value}
theorem nb_full (h : Nb w0 w p q) (vb : Value) (now : Int) (hf : q.room ≤ q.ms.length) :
    Calls Try.prog 12 #[.pointer (some ⟨p, 0, none⟩), vb, .int .i64 now] w fun e w' => e = .returned (.int .i64 20) ∧ Kp [] w w' ∧ Nb w0 w' p q := by
  obtain ⟨v, g⟩ := h.ex
  refine (bput_full _ p v vb q now w g hf).mono ?_
  rintro e w' ⟨rfl, K⟩
  exact ⟨rfl, K, h.keptN K⟩
theorem nb_take (h : Nb w0 w p q) (k : Nat) (hk : k = min q.size.toNat q.ms.length) (q' : Qd) (hq : q' = { q with ms := q.ms.drop k }) :
    Calls Try.prog 14 #[.pointer (some ⟨p, 0, none⟩)] w fun e w' => ∃ ao c, e = .returned (.slice ao k c) ∧ Tl w.heap.size w' (.slice ao k c) ((q.ms.take k).map It.bs) ∧ Nb w0 w' p q' ∧ Off w w' := by
  obtain ⟨v, g⟩ := h.ex
  subst hq
  refine (btake_any _ p v q w g k hk).mono ?_
  rintro e w' ⟨ao, m, c, v', rfl, T, Q, D⟩
  have hm : m = k := by
    obtain ⟨_, _, e⟩ := T.shape
    injection e with _ e2 _
    rw [e2]; simp; omega
  subst hm
  exact ⟨ao, c, rfl, T, h.step g Q D⟩
theorem nb_all (h : Nb w0 w p q) (n : Nat) (hn : n = q.ms.length) :
    Calls Try.prog 18 #[.pointer (some ⟨p, 0, none⟩)] w fun e w' => ∃ ao c, e = .returned (.slice ao n c) ∧ Tl w.heap.size w' (.slice ao n c) (q.ms.map It.bs) ∧ Kp [] w w' ∧ Nb w0 w' p q := by
  obtain ⟨v, g⟩ := h.ex
  refine (ball_any _ p v q w g).mono ?_
  rintro e w' ⟨ao, m, c, rfl, T, K⟩
  have hm : m = n := by
    obtain ⟨_, _, e⟩ := T.shape
    injection e with _ e2 _
    rw [e2, hn]; simp
  subst hm
  exact ⟨ao, c, rfl, T, K, h.keptN K⟩
theorem nb_back (h : Nb w0 w p q) {vi : Value} (li : List (Value × List Int)) (hL : Lists w vi li) (hli : ∀ x ∈ li, x.2.length ≤ 1000) (hn : q.ms.length + li.length ≤ 1000) (q' : Qd) (hq : q' = { q with ms := (li.map (fun x => evr x.2)) ++ q.ms }) :
    Calls Try.prog 15 #[.pointer (some ⟨p, 0, none⟩), vi] w fun e w' => e = .returned (.tuple #[]) ∧ Nb w0 w' p q' ∧ Off w w' := by
  obtain ⟨v, g⟩ := h.ex
  subst hq
  refine (bback_any _ p v vi q li w g hL hli hn h.kp.size).mono ?_
  rintro e w' ⟨rfl, v', Q, D⟩
  exact ⟨rfl, h.step g Q D⟩
end
theorem RowT.keptO {w w' : World} {base : Nat} {v : Value} {l : List It} (h : RowT 49 w base v l) (o : Off w w') : RowT 49 w' base v l := by
  obtain ⟨S, k, hS⟩ := o
  refine h.kept k (fun i hi hm => ?_)
  obtain ⟨_, c, hc⟩ := h.typ hi
  obtain ⟨c', t, hc', ht⟩ := hS i hm
  rw [hc] at hc'
  injection hc' with e1
  injection e1 with _ e2
  rcases ht with ht | ht
  · exact absurd (e2.trans ht) (by decide)
  · exact absurd (e2.trans ht) (by decide)
end Go.Proofs.Ytfepkcjelecpkaa

/-
  A slice of asks as an argument; a queue beside the law's own list.
-/
namespace Go.Proofs.Ytfepkcjelecpkaa
open Go.ChangeShapes Go.WideShapes Go.ChangeAt Go.RowKit
open Go.Proofs
open Go.Deep
set_option linter.unusedVariables false
/-- one ask as data. -/
structure AskBE where
  kind : Int
  n : Int
  v : Value
  bs : List Int
def AskBAt (w : World) (b o : Nat) (x : AskBE) : Prop :=
  w.rangeAt b o [.int .i64 x.kind, .int .i64 x.n, x.v] ∧ Sl w x.v x.bs ∧ Bs x.bs ∧ (-9223372036854775808 ≤ x.n ∧ x.n ≤ 9223372036854775807)
/-- v is a slice that reads as the asks l. -/
def AskB (w : World) (v : Value) (l : List AskBE) : Prop :=
  ∃ ao c, v = .slice ao l.length c ∧ l.length ≤ 9223372036854775807 ∧ ∀ i (h : i < l.length), ∃ b off, ao = some ⟨b, off, none⟩ ∧ AskBAt w b (off + i * 3) l[i]
theorem AskBAt.kept {w w' : World} {b o : Nat} {x : AskBE} (h : AskBAt w b o x) (k : Kp [] w w') : AskBAt w' b o x :=
  ⟨fun j u hu => k.cell (h.1 j u hu) (by simp), h.2.1.kept k (by simp), h.2.2⟩
theorem AskB.kept {w w' : World} {v : Value} {l : List AskBE} (h : AskB w v l) (k : Kp [] w w') : AskB w' v l := by
  obtain ⟨ao, c, rfl, h1, h2⟩ := h
  refine ⟨ao, c, rfl, h1, fun i hi => ?_⟩
  obtain ⟨b, off, e, h3⟩ := h2 i hi
  exact ⟨b, off, e, h3.kept k⟩
theorem Try.askBFields : ∃ f0 f1 f2, Try.prog.underlying 30 = some (.struct #[f0, f1, f2]) ∧ (f0.offset = 0 ∧ f1.offset = 1 ∧ f2.offset = 2) ∧ (f0.type = 3 ∧ f1.type = 3 ∧ f2.type = 28) :=
  ⟨_, _, _, Try.underlying30, ⟨rfl, rfl, rfl⟩, ⟨rfl, rfl, rfl⟩⟩
theorem Try.cellsAskB : Try.prog.cellsOf 30 = 3 := by kernel_rfl
theorem Try.cellsIntB : Try.prog.cellsOf 3 = 1 := by kernel_rfl
theorem Try.cellsSlB : Try.prog.cellsOf 28 = 1 := by kernel_rfl
section
variable {H : Type} {enc : TypeId × Value → H} {w : World}
theorem askBe_of_trod {a : Addr} {cs : List Value} {n : Nat} {x : DataW H × List MemPlace} (hc : w.cells? 0 a 3 = some cs) (h : DataW.trod enc Try.prog w 0 (fun _ => true) true n 30 cs = some x) :
    a.spot = none ∧ ∃ d, AskBAt w a.block a.off d := by
  obtain ⟨f0, f1, f2, hu, ⟨o0, o1, o2⟩, ⟨t0, t1, t2⟩⟩ := Try.askBFields
  obtain ⟨y0, y1, y2, m, _, hl, h0, h1, h2⟩ := Go.Deep.trod_struct3 hu h
  obtain ⟨_, hlen, hcell⟩ := World.cells?_some hc
  rw [o0, t0, Try.cellsIntB] at h0
  rw [o1, t1, Try.cellsIntB] at h1
  rw [o2, t2, Try.cellsSlB] at h2
  match cs, hlen with
  | [c0, c1, c2], _ =>
    simp only [List.drop_zero, List.drop_succ_cons, List.take_succ_cons, List.take_zero] at h0 h1 h2
    obtain ⟨x0, e0, _, _⟩ := DataW.trod_int Try.underlying3 h0
    obtain ⟨x1, e1, _, w1⟩ := DataW.trod_int Try.underlying3 h1
    obtain ⟨bs, hs, hB⟩ := bytes_of_trod h2
    simp only [List.cons.injEq, and_true] at e0 e1
    subst e0 e1
    obtain ⟨b, off, spot⟩ := a
    have k0 := hcell 0 (by omega)
    have hspot : ((⟨b, off, spot⟩ : Addr).add 0).spot = none := World.cell?_spot (v := .int .i64 x0) (by simpa using k0)
    have hspot' : spot = none := by rw [Addr.add_zero'] at hspot; exact hspot
    subst hspot'
    refine ⟨rfl, ⟨x0, x1, c2, bs⟩, fun j u hu => ?_, hs, hB, bounds_i64 w1⟩
    have hj : j < 3 := by have := (List.getElem?_eq_some_iff.1 hu).1; simpa using this
    have kj := hcell j (by omega)
    rw [Addr.add_lit] at kj
    rw [kj]
    exact hu
theorem askB_of_trod {v : Value} {fuel : Nat} {x : DataW H × List MemPlace} (h : DataW.trod enc Try.prog w 0 (fun _ => true) true fuel 27 [v] = some x) : ∃ l, AskB w v l := by
  rcases open_slice Try.underlying27 h with ⟨hcs, _⟩ | ⟨a, len, cap, m, n, D, Pl, hcs, _, hl, hm, hmm, _, hx⟩
  · simp only [List.cons.injEq, and_true] at hcs
    subst hcs
    exact ⟨[], none, 0, rfl, by simp, fun i hi => by cases hi⟩
  · simp only [List.cons.injEq, and_true] at hcs
    subst hcs
    simp only [if_true] at hmm
    subst hmm
    rw [Try.cellsAskB] at hx
    have key : ∀ i, i < len → ∃ d, (a.add (i * 3)).spot = none ∧ AskBAt w (a.add (i * 3)).block (a.add (i * 3)).off d := fun i hi => by
      obtain ⟨cs', h1, h2⟩ := hx i (by omega)
      obtain ⟨e, d, hd⟩ := askBe_of_trod h1 h2
      exact ⟨d, e, hd⟩
    have inst : Inhabited AskBE := ⟨⟨0, 0, .slice none 0 0, []⟩⟩
    obtain ⟨F, hF⟩ := @choose_lt AskBE inst len (fun i d => (a.add (i * 3)).spot = none ∧ AskBAt w (a.add (i * 3)).block (a.add (i * 3)).off d) key
    have hlen : ((List.range len).map F).length = len := by simp
    refine ⟨(List.range len).map F, some a, m, by rw [hlen], by unfold maxLen at hm; rw [hlen]; omega, fun i hi => ?_⟩
    rw [hlen] at hi
    obtain ⟨s0, _⟩ := hF 0 (by omega)
    obtain ⟨si, hA⟩ := hF i hi
    obtain ⟨b, off, spot⟩ := a
    have hspot : spot = none := by simpa [Addr.add] using s0
    subst hspot
    rw [Addr.add_lit] at hA
    have hg : ((List.range len).map F)[i]'(by rw [hlen]; exact hi) = F i := by simp
    rw [hg]
    exact ⟨b, off, rfl, hA⟩
end
/-- how the law writes down when one waits since. -/
def nrmI (e : It) : It := ⟨e.bs, if e.at_ = -9223372036854775808 then -1125899906842624 else e.at_⟩
/-- the queue and the law's list beside it. -/
structure Pb (w0 w : World) (p : Nat) (r s t : Int) (vm : Value) (ms : List It) (k : Nat) : Prop where
  q : Nb w0 w p ⟨r, s, t, ms⟩
  m : RowT 49 w w0.heap.size vm (ms.map nrmI)
  len : ms.length ≤ 16 + 2 * k
  tm : ∀ e ∈ ms, e.at_ = -9223372036854775808 ∨ (0 ≤ e.at_ ∧ e.at_ ≤ 1073741824)
section
variable {w0 w w' : World} {p : Nat} {r s t : Int} {vm vm' : Value} {ms ms' : List It} {k : Nat}
theorem Pb.kept (h : Pb w0 w p r s t vm ms k) (g : Kp [] w w') : Pb w0 w' p r s t vm ms k := ⟨h.q.keptN g, h.m.keptN g, h.len, h.tm⟩
theorem Pb.more (h : Pb w0 w p r s t vm ms k) : Pb w0 w p r s t vm ms (k + 1) := ⟨h.q, h.m, by have := h.len; omega, h.tm⟩
theorem Pb.shape (h : Pb w0 w p r s t vm ms k) : ∃ ao c, vm = .slice ao ms.length c ∧ ms.length ≤ c ∧ (ao = none → c = 0) := by
  obtain ⟨ao, c, e, h1, _, h3⟩ := h.m.shape
  rw [List.length_map] at e h1
  exact ⟨ao, c, e, h1, h3⟩
/-- an item is put. -/
theorem Pb.put (h : Pb w0 w p r s t vm ms k) {b : List Int} {now : Int} (hn : 0 ≤ now ∧ now ≤ 1073741824) (q : Nb w0 w' p ⟨r, s, t, ms ++ [⟨b, now⟩]⟩) (m : RowT 49 w' w0.heap.size vm' (ms.map nrmI ++ [⟨b, now⟩])) : Pb w0 w' p r s t vm' (ms ++ [⟨b, now⟩]) (k + 1) := by
  refine ⟨q, ?_, by have := h.len; simp; omega, fun e he => ?_⟩
  · have e : (ms ++ [It.mk b now]).map nrmI = ms.map nrmI ++ [It.mk b now] := by
      rw [List.map_append]
      simp only [List.map_cons, List.map_nil, nrmI]
      rw [if_neg (by omega)]
    rw [e]; exact m
  · rcases List.mem_append.1 he with he | he
    · exact h.tm e he
    · obtain rfl : e = ⟨b, now⟩ := by simpa using he
      exact .inr hn
theorem Pb.take (h : Pb w0 w p r s t vm ms k) (K : Nat) (q : Nb w0 w' p ⟨r, s, t, ms.drop K⟩) (m : RowT 49 w' w0.heap.size vm' ((ms.map nrmI).drop K)) : Pb w0 w' p r s t vm' (ms.drop K) (k + 1) :=
  ⟨q, by rw [List.map_drop]; exact m, by have := h.len; simp; omega, fun e he => h.tm e (List.mem_of_mem_drop he)⟩
theorem Pb.back (h : Pb w0 w p r s t vm ms k) {b : List Int} (q : Nb w0 w' p ⟨r, s, t, [evr b, evr b] ++ ms⟩) (m : RowT 49 w' w0.heap.size vm' ([⟨b, -1125899906842624⟩, ⟨b, -1125899906842624⟩] ++ ms.map nrmI)) : Pb w0 w' p r s t vm' ([evr b, evr b] ++ ms) (k + 1) := by
  refine ⟨q, m, by have := h.len; simp; omega, fun e he => ?_⟩
  rcases List.mem_append.1 he with he | he
  · have : e = evr b := by simpa using he
    rw [this]; exact .inl rfl
  · exact h.tm e he
end
/-- when there is to be a Take, as the law reckons it. -/
theorem due_law (r s t now : Int) (x : It) (l : List It) (ht : 0 ≤ t) (ht1 : t ≤ 1000) (hn : 0 ≤ now) (hx : x.at_ = -9223372036854775808 ∨ (0 ≤ x.at_ ∧ x.at_ ≤ 1073741824)) (hs : ¬ s ≤ ((x :: l).length : Int)) : Qd.due ⟨r, s, t, x :: l⟩ now = decide ((nrmI x).at_ + t ≤ now) := by
  have h8 : decide (s ≤ ((x :: l).length : Int)) = false := decide_eq_false hs
  simp only [Qd.due, h8, Bool.false_or, oldP]
  rcases hx with h | ⟨h1, h2⟩
  · have e : (nrmI x).at_ = -1125899906842624 := by unfold nrmI; simp [h]
    have h4 : decide ((nrmI x).at_ + t ≤ now) = true := decide_eq_true (by omega)
    rw [h4]
    simp [h]
  · have h3 : ¬ x.at_ = -9223372036854775808 := by omega
    have e : (nrmI x).at_ = x.at_ := by unfold nrmI; simp [h3]
    rw [Bool.eq_iff_iff, decide_eq_true_iff, e]
    simp [h3]; omega
theorem nrm_at (x : It) (hx : x.at_ = -9223372036854775808 ∨ (0 ≤ x.at_ ∧ x.at_ ≤ 1073741824)) : -1125899906842624 ≤ (nrmI x).at_ ∧ (nrmI x).at_ ≤ 1073741824 := by
  unfold nrmI
  rcases hx with h | ⟨h1, h2⟩
  · simp [h]
  · simp only; split <;> omega
/-- a row of the law's own items, made since w. -/
def MkT (w w1 : World) (v : Value) (l : List It) : Prop := RowT 49 w1 w.heap.size v l ∧ Kp [] w w1
section
variable {w w1 w2 : World} {v v2 : Value} {l l2 : List It}
theorem MkT.made (w : World) : MkT w (w.alloc (.cells #[] 49)) (.slice (some ⟨w.heap.size, 0, none⟩) 0 0) [] :=
  ⟨.inr ⟨w.heap.size, 0, 0, #[], rfl, Nat.le_refl _, heap_alloc_new w _, Nat.le_refl _, by simp [maxLen], by simp, by simp [flatI]⟩, (Kp.refl [] w).alloc _⟩
theorem MkT.on (h : MkT w w1 v l) (k : Kp [] w1 w2) : MkT w w2 v l := ⟨h.1.keptN k, h.2.trans k⟩
theorem MkT.step (h : MkT w w1 v l) (r : RowT 49 w2 w.heap.size v2 l2) (s : RStep w1 v w2 v2) : MkT w w2 v2 l2 :=
  ⟨r, h.2.then s.1 (fun i hi => .inr (h.1.own (by simpa using hi)))⟩
theorem MkT.base {w0 : World} (h : MkT w w1 v l) (k : Kp [] w0 w) : MkT w0 w1 v l := ⟨h.1.rebase (fun i hi => Nat.le_trans k.size (h.1.own hi)), k.trans h.2⟩
theorem step_mkT {w0 w : World} {ops : Array Oper} {o : Oper} {a : Act} {K : Act → World → Prop} {Q : Exit → Act → World → Prop} {E : Prop} (hgd : o.guard = none) (s x : Operand)
    (ho : o.op = .call { callee := .builtin .append, args := #[s, x], argTypes := #[46, 46] }) (v : Value) (l : List It) (hs : a.eval s = v) (hr : MkT w0 w v l) (vx : Value) (l' : List It) (hx : a.eval x = vx) (hS : SrcI w vx l') (hb : l.length + l'.length ≤ 1000000)
    (h : ∀ ao m c w', MkT w0 w' (.slice ao m c) (l ++ l') → Kp v.ownBlock.toList w w' → K (a.put o.dst (.slice ao m c)) w') :
    if Region.wanted o (yielded ops a.tmps) = true then Oper.wp Try.prog o a w K Q else E :=
  step_appT hgd 49 46 Try.underlying46 Try.infoIm s x ho w0.heap.size v l hs hr.1 vx l' hx hS hb hr.2.size fun ao m c w' r st => h ao m c w' (hr.step r st) st.1
end
end Go.Proofs.Ytfepkcjelecpkaa
