/-
  Rows of items (a text and a time, two cells each) that lie from whichever place of their block on: reading, cutting, append onto them, clear.
-/
import Derived.Test.YtfepkcjelecpkaaQC9
import Derived.Test.YtfepkcjelecpkaaQOBatchRooms3
namespace Go.Proofs.Ytfepkcjelecpkaa
open Go.RowKit
open Go.Proofs
set_option linter.unusedVariables false
section
variable {T : TypeId} {w w' : World} {base : Nat} {v v' : Value} {l l' : List It}
end
theorem zerosI_ok (n : Nat) : ∀ u ∈ (Builtin.zeroCells (Value.agg #[.string ⟨#[]⟩, .int .i64 0]).cells n).toList, u.oneCell' = true := by
  intro u hu
  have : u ∈ Builtin.zeroCells (Value.agg #[.string ⟨#[]⟩, .int .i64 0]).cells n := by simpa using hu
  unfold Builtin.zeroCells at this
  simp [Value.cells] at this
  obtain ⟨i, _, rfl⟩ := this
  have : i % 2 = 0 ∨ i % 2 = 1 := by omega
  rcases this with h | h <;> simp [h, Value.oneCell']
/-- clear of a row's beginning: its end stands. -/
theorem run_clearT (T TS : TypeId) (hTS : Try.prog.underlying TS = some (.slice T)) (hi : (Try.prog.info? T).map (fun i => (i.zero, i.size, i.bytes)) = some (some (.agg #[.string ⟨#[]⟩, .int .i64 0]), 2, 24)) (ty : TypeId) (base : Nat) (ao : Option Addr) (n c k : Nat) (l : List It) (w : World) (h : RowT T w base (.slice ao n c) l) (hk : k ≤ n) :
    ∃ w', (Builtin.clear_ #[TS] ty #[.slice ao k c]).run Try.prog w = .ok (.tuple #[]) w' ∧ RowT T w' base (.slice (if c = k then ao else ao.map (·.add (k * 2))) (n - k) (c - k)) (l.drop k) ∧ Kp (Value.slice ao n c).ownBlock.toList w w' := by
  obtain ⟨i0, hi0, hz0, hz1, hz2⟩ := info_parts hi
  have hd := h.drop k hk
  by_cases h0 : k = 0
  · subst h0
    refine ⟨w, ?_, hd, Kp.refl _ _⟩
    cases ao <;> simp [Builtin.clear_, run_underlying hTS]
  · rcases h with ⟨e, rfl⟩ | ⟨g, off, cap, cur, e, h1, h2, h3, h4, h5, h6⟩
    · injection e with e1 e2 e3
      omega
    · injection e with e1 e2 e3
      subst e1 e2 e3
      obtain ⟨Z, hZ⟩ : ∃ Z, Z = (Builtin.zeroCells (Value.agg #[.string ⟨#[]⟩, .int .i64 0]).cells k).toList := ⟨_, rfl⟩
      have hz : Z.length = k * 2 := by rw [hZ]; simp [size_zeroCells, Value.cells]
      have hok : ∀ u ∈ Z, u.oneCell' = true := by rw [hZ]; exact zerosI_ok _
      have hst := run_storeCells_cells (P := Try.prog) g off Z 0 w (fun j hj => by rw [cell_of_cur h2, Array.getElem?_eq_getElem (by omega)]; rfl) (fun j hj => frozen_of_cur h2 _) hok
      rw [Nat.add_zero] at hst
      obtain ⟨cur', a1, a2, a3, a4⟩ := heap_setCells g T Z off w cur h2 (by omega)
      refine ⟨w.setCells g off Z, ?_, ?_, (kp_setsI g _ _ w).mono (by simp [Value.ownBlock])⟩
      · obtain ⟨m, rfl⟩ : ∃ m, k = m + 1 := ⟨k - 1, by omega⟩
        rw [hZ] at hst ⊢
        simp [Builtin.clear_, run_underlying hTS, zeroValue, typeInfo, hi0, hz0, hst]
      · by_cases hck : c = k
        · have hl : l.drop k = [] := List.drop_eq_nil_of_le (by omega)
          rw [hl, if_pos hck]
          refine .inr ⟨g, off, c - k, cur', by congr 1; simp; omega, h1, a1, by simp, by omega, by omega, fun j u hu => ?_⟩
          simp [flatI] at hu
        · rw [if_neg hck]
          simp only [Option.map_some, Addr.add_lit]
          refine .inr ⟨g, off + k * 2, c - k, cur', by rw [List.length_drop], h1, a1, by rw [List.length_drop]; omega, by omega, by omega, fun j u hu => ?_⟩
          rw [flatI_drop, List.getElem?_drop] at hu
          rw [a3 _ (.inr (by omega)), Nat.add_assoc]
          exact h6 _ u hu
section
variable {w : World} {ao : Option Addr} {n c : Nat}
theorem run_headW (k : Nat) (w : World) (h1 : k ≤ n) (h2 : n ≤ c) (h3 : ao = none → c = 0) : (Instr.sliceAt 43 (.slice ao n c) none (some (.int .i64 k)) none).run Try.prog w = .ok (.slice ao k c) w := by
  have e3 : (k : Int) ≤ (c : Int) := by omega
  cases ao with
  | none =>
    have := h3 rfl
    subst this
    obtain rfl : k = 0 := by omega
    simp [go_sem]
  | some a => simp [go_sem, e3]
theorem run_restW (k : Nat) (w : World) (h1 : k ≤ n) (h2 : n ≤ c) (h3 : ao = none → c = 0) : (Instr.sliceAt 43 (.slice ao n c) (some (.int .i64 k)) none none).run Try.prog w = .ok (.slice (if c = k then ao else ao.map (·.add (k * 2))) (n - k) (c - k)) w := by
  have e3 : (k : Int) ≤ (n : Int) := by omega
  cases ao with
  | none =>
    have := h3 rfl
    subst this
    obtain rfl : k = 0 := by omega
    obtain rfl : n = 0 := by omega
    simp [go_sem]
  | some a =>
    by_cases hc : c = k
    · subst hc
      obtain rfl : n = c := by omega
      simp [go_sem]
    · simp [go_sem, e3, hc]
end
end Go.Proofs.Ytfepkcjelecpkaa

/-
  Package batch's queue in memory; the contracts of New, Len, Put.
-/
namespace Go.Proofs.Ytfepkcjelecpkaa
open Go.RowKit
open Go.Proofs
set_option linter.unusedVariables false
section
variable {T : TypeId} {w w' : World} {p : Nat} {a b c d : Value}
theorem Fo.c2 (h : Fo T w p a b c d) : w.cell? ⟨p, 2, none⟩ = some c := by rw [cell_of_row w p 2 _ _ _ h]; rfl
end
section
variable {w w' w1 : World} {base p : Nat} {v v' : Value} {q q' : Qd}
end
section
variable {w : World} {base : Nat} {v vx : Value} {l l' : List It}
end
set_option maxHeartbeats 2000000 in
theorem bput_full (base p : Nat) (v vb : Value) (q : Qd) (now : Int) (w : World) (h : Qm w base p v q) (hf : q.room ≤ q.ms.length) :
    Calls Try.prog 12 #[.pointer (some ⟨p, 0, none⟩), vb, .int .i64 now] w fun e w' => e = .returned (.int .i64 20) ∧ Kp [] w w' := by
  obtain ⟨n, hn⟩ : ∃ n, n = q.ms.length := ⟨_, rfl⟩
  have HL := hide (fun k => blen_any base p v q _ (h.drewN k) n hn)
  obtain ⟨r, hr⟩ : ∃ r, r = q.room := ⟨_, rfl⟩
  have hc := h.here.c0
  rw [← hr] at hc hf
  rw [← hn] at hf
  clear h hn hr
  go_enter Try.func12, Try.ntmps12
  go_wp2_with fail
  go_quiet (first | (go_at_call 13; exact Calls.quiet_of_same (HL.out _)))
  go_wp2_with fail
  go_ret
  exact ⟨rfl, kp_drewN _ _⟩
end Go.Proofs.Ytfepkcjelecpkaa

/-
  The contract of package batch's texts.
-/
namespace Go.Proofs.Ytfepkcjelecpkaa
open Go.RowKit
open Go.Proofs
set_option linter.unusedVariables false
theorem Tl.lower {B B' : Nat} {w : World} {v : Value} {ls : List (List Int)} (h : Tl B w v ls) (hB : B' ≤ B) : Tl B' w v ls := by
  obtain ⟨l, ⟨h1, h2⟩, h3, h4⟩ := h
  exact ⟨l, ⟨owns_rebase h1 (fun i hi => Nat.le_trans hB (h1.own i hi)), h2⟩, h3, fun x hx i hi => Nat.le_trans hB (h4 x hx i hi)⟩
/-- one more slice, that is new since the gathering's last step. -/
theorem wpList_accn {w wr w2 : World} {ops : Array Oper} {rest : List Oper} {o : Oper} {a : Act} {Q : Exit → Act → World → Prop} (hgd : o.guard = none) (s x : Operand)
    (ho : o.op = .call { callee := .builtin .append, args := #[s, x], argTypes := #[36, 36] }) (v : Value) (ls : List (List Int)) (hs : a.eval s = v) (hA : AccN w ls v wr) (hl : ls.length ≤ 1000000)
    (vx : Value) (bs : List Int) (k : Kp [] wr w2) (hSl : Sl w2 vx bs) (hnew : ∀ i, vx.ownBlock = some i → wr.heap.size ≤ i ∧ i < w2.heap.size) (hb : Bs bs) (hx : a.eval x = .slice (some ⟨w2.heap.size, 0, none⟩) 1 1)
    (h : ∀ ao m c w', AccN w (ls ++ [bs]) (.slice ao m c) w' → wpList Try.prog ops Q rest (a.put o.dst (.slice ao m c)) w') : wpList Try.prog ops Q (o :: rest) a (w2.alloc (.cells #[vx] 28)) := by
  obtain ⟨⟨l, hP, hl2, hN⟩, hK⟩ := hA
  have kk := k.trans ((Kp.refl [] w2).alloc (.cells #[vx] 28))
  have hP2 := hP.kept kk
  have hap : ∀ i, vx.ownBlock = some i → v.ownBlock = some i → bs = [] := fun i h1 h2 => by
    have := hP.1.lt h2
    have := hnew i h1
    omega
  obtain ⟨ax, cx, hvx, _⟩ := id hSl
  refine wpList_append_rowv hgd s x ho w.heap.size v (l.map (·.1)) hs hP2.1 ⟨w2.heap.size, 0, none⟩ 1 [vx] hx ?_ ?_ ?_ ?_ ?_
  · intro j u hu
    exact World.news_of_block (heap_alloc_new w2 _) j u (by simpa using hu)
  · simp [hvx, Value.oneCell']
  · have : l.length = ls.length := by rw [← hl2]; simp
    simp; omega
  · have := hK.size
    have := kk.size
    omega
  · intro ao m c w' r st
    have hSl2 : Sl (w2.alloc (.cells #[vx] 28)) vx bs := hSl.kept ((Kp.refl [] w2).alloc _) (by simp)
    refine h ao m c w' ⟨⟨l ++ [(vx, bs)], hP2.snocR (x := (vx, bs)) hSl2 hb hap r st, by simp [hl2], fun y hy i hi => ?_⟩, ?_⟩
    · rcases List.mem_append.1 hy with hy | hy
      · exact hN y hy i hi
      · obtain rfl : y = (vx, bs) := by simpa using hy
        have := hK.size
        have := (hnew i hi).1
        omega
    · exact (hK.trans kk).then st.1 (fun i hi => .inr (hP.1.own i (by simpa using hi)))
set_option maxHeartbeats 4000000 in
set_option maxRecDepth 100000 in
theorem btexts_any (base : Nat) (ao : Option Addr) (n c : Nat) (l : List It) (w : World) (h : RowT 52 w base (.slice ao n c) l) (hl : l.length ≤ 1000) (hok : ∀ e ∈ l, e.Ok) :
    Calls Try.prog 20 #[.slice ao n c] w fun e w' => ∃ ao' m' c', e = .returned (.slice ao' m' c') ∧ AccN w (l.map It.bs) (.slice ao' m' c') w' := by
  obtain ⟨hn, -, -⟩ := h.len
  obtain ⟨i0, hi0, hz0, hz1, hz2⟩ := info_parts Try.infoSl
  have H := hide h
  have HN := hide hn
  have HOK := hide hok
  rw [← hn] at hl
  clear h hok hn
  go_enter Try.func20, Try.ntmps20
  go_wp2_with (at_make; refine wpList_make_own _ rfl _ _ 36 rfl w.heap.size 28 i0 (.slice none 0 0) 1 Try.underlying36 hi0 hz0 hz1 .i64 .i64 _ n rfl rfl (by omega) (by rw [hz2]; omega) (by unfold maxLen; omega) (Nat.le_refl _) ?_; intro w1 o1 g1; have K1 : Kp [] w w1 := (Kp.refl [] w).grown g1 (by intro k hk; cases hk); have R1 : RowV w1 w.heap.size _ [] := o1)
  have A1 : Hid (AccN w [] (.slice (some ⟨w.heap.size, 0, none⟩) 0 n) w1) := ⟨⟨[], ⟨R1, by simp⟩, rfl, by simp⟩, K1⟩
  clear o1 g1 R1 K1
  go_loopw [3, 11] (fun v i wr => ∃ (k m c' : Nat) (a' : Option Addr), k ≤ n ∧ v = .slice a' m c' ∧ i = .int .i64 k ∧ AccN w ((l.take k).map It.bs) v wr) (fun _ i _ => n - (intOf i).toNat)
  case atStart => exact ⟨0, 0, n, some ⟨w.heap.size, 0, none⟩, by omega, rfl, rfl, A1.out⟩
  case round =>
    obtain ⟨k, m, c', a', hk, rfl, rfl, A⟩ := hrel
    have HA := hide A
    clear A A1
    by_cases hlt : k < n
    · have hlt2 : (k : Int) < (n : Int) := by omega
      have hkl : k < l.length := by rw [← HN.out]; exact hlt
      obtain ⟨g, off, rfl, c0, c1⟩ := (H.out.keptN HA.out.kp).at k hkl
      have hx := HOK.out l[k] (List.getElem_mem hkl)
      have ht : Hid ((l.take (k + 1)).map It.bs = (l.take k).map It.bs ++ [l[k].bs]) := by
        show _ = _
        rw [List.take_succ_eq_append_getElem hkl, List.map_append]
        rfl
      have HLT : Hid (((l.take k).map It.bs).length ≤ 1000000) := by show _ ≤ _; simp; omega
      obtain ⟨x, hxe⟩ : ∃ x, x = l[k] := ⟨_, rfl⟩
      rw [← hxe] at c0 c1 hx ht
      obtain ⟨S, hS⟩ : ∃ S, S = strOfNums x.bs := ⟨_, rfl⟩
      rw [← hS] at c0
      have HS := hide hS
      have HX := hide hx
      clear hxe hS hx
      have KA := hide ((Kp.refl [] wr).alloc (.cells #[.string S, .int .i64 x.at_] 52))
      obtain ⟨c5, w5, hcv, S5, K5⟩ := conv_big S (wr.alloc (.cells #[.string S, .int .i64 x.at_] 52)) (by rw [HS.out, str_size]; have := HX.out.2.1; omega)
      rw [HS.out, nums_str x.bs HX.out.1, ← HS.out] at S5
      have HS5 := hide S5
      have HK5 := hide (KA.out.trans K5)
      have hsz2 : Hid (wr.heap.size + 1 < w5.heap.size) := by
        have h5 := Lib.run_convert_string_bytes (P := Try.prog) (wr.alloc (.cells #[.string S, .int .i64 x.at_] 52)) 9 28 5 S Try.underlying9 Try.underlying28 Try.underlying5
        rw [hcv] at h5
        injection h5 with _ e5
        show _ < _
        rw [e5, Lib.bytesWorld_size]
        simp
      have esz : (wr.alloc (.cells #[.string S, .int .i64 x.at_] 52)).heap.size = wr.heap.size + 1 := by simp
      rw [esz] at hcv HS5
      clear esz
      have HNW : Hid (∀ i, (Value.slice (some ⟨wr.heap.size + 1, 0, none⟩) S.size c5).ownBlock = some i → wr.heap.size ≤ i ∧ i < w5.heap.size) := fun i hi => by
        have e : wr.heap.size + 1 = i := by simpa [Value.ownBlock] using hi
        have := hsz2.out
        omega
      clear S5 K5
      go_wp2_with (at_builtin; refine wpList_accn rfl (.tmp 15) (.tmp 19) rfl _ _ rfl HA.out HLT.out (.slice (some ⟨wr.heap.size + 1, 0, none⟩) S.size c5) x.bs HK5.out HS5.out HNW.out HX.out.1 rfl ?_; intro ao4 m4 c4 w4 A4; rw [← ht.out] at A4; have HA4 := hide A4; clear A4)
      go_roundw
      case rel => exact ⟨k + 1, m4, c4, ao4, by omega, rfl, by go_num, HA4.out⟩
      case measure => simp [intOf]; omega
    · have hkn : k = n := by omega
      have hnlt : ¬ (k : Int) < (n : Int) := by omega
      have HF : Hid (AccN w (l.map It.bs) (.slice a' m c') wr) := by
        have := HA.out
        rw [hkn, HN.out, List.take_length] at this
        exact this
      clear hkn HA
      go_wp2_with fail
      go_ret
      exact ⟨a', m, c', rfl, HF.out⟩
end Go.Proofs.Ytfepkcjelecpkaa

/-
  The contracts of package batch: Take, All.
-/
namespace Go.Proofs.Ytfepkcjelecpkaa
open Go.RowKit
open Go.Proofs
set_option linter.unusedVariables false
theorem own_rest (ao : Option Addr) (n c k : Nat) : (Value.slice (if c = k then ao else ao.map (·.add (k * 2))) (n - k) (c - k)).ownBlock = (Value.slice ao n c).ownBlock := by
  cases ao with
  | none => split <;> rfl
  | some a =>
    split
    · rfl
    · simp [Value.ownBlock, add_block]
set_option maxHeartbeats 4000000 in
set_option maxRecDepth 100000 in
theorem btake_any (base p : Nat) (v : Value) (q : Qd) (w : World) (h : Qm w base p v q) (k : Nat) (hk : k = min q.size.toNat q.ms.length) :
    Calls Try.prog 14 #[.pointer (some ⟨p, 0, none⟩)] w fun e w' => ∃ ao' m' c' v', e = .returned (.slice ao' m' c') ∧ Tl w.heap.size w' (.slice ao' m' c') ((q.ms.take k).map It.bs) ∧ Qm w' base p v' { q with ms := q.ms.drop k } ∧ DSt p w v w' v' := by
  obtain ⟨ao, c, rfl, hc1, hc2, hc3⟩ := h.shape
  obtain ⟨n, hn⟩ : ∃ n, n = q.ms.length := ⟨_, rfl⟩
  obtain ⟨r, hr⟩ : ∃ r, r = q.room := ⟨_, rfl⟩
  obtain ⟨s, hs⟩ : ∃ s, s = q.size := ⟨_, rfl⟩
  obtain ⟨t, ht⟩ : ∃ t, t = q.wait := ⟨_, rfl⟩
  rw [← hn] at h hk hc1 ⊢
  have HP : Hid (∀ w', Kp [] w.drew w' → w'.heap[p]? = some (.cells #[.int .i64 r, .int .i64 s, .int .i64 t, .slice ao n c] 45 (0, 0))) := fun w' k' => by
    rw [hr, hs, ht]; exact (h.keptN ((kp_drew w).trans k')).here
  have HQ : Hid (∀ w', Kp [] w.drew w' → Calls Try.prog 13 #[.pointer (some ⟨p, 0, none⟩)] w' fun e w'' => e = .returned (.int .i64 (n : Nat)) ∧ w'' = w') := fun w' k' => blen_any base p _ q w' (h.keptN ((kp_drew w).trans k')) n hn
  have hs0 := h.fit.s0
  rw [← hs] at hs0 hk
  have hmin : (k : Int) = if (n : Int) < s then (n : Int) else s := by split <;> omega
  have hkn : k ≤ n := by omega
  have H := hide h
  have HC1 := hide hc1
  have HC3 := hide hc3
  have HCN : Hid ((q.ms.take k).length ≤ 1000) := by have := h.fit.cnt; show _ ≤ _; simp; omega
  have HIT : Hid (∀ e ∈ q.ms.take k, e.Ok) := fun e he => h.fit.its e (List.mem_of_mem_take he)
  have HF : Hid (Qd.Fit { q with ms := q.ms.drop k }) := ⟨h.fit.r0, h.fit.r1, h.fit.s0, h.fit.s1, h.fit.t0, h.fit.t1, by have := h.fit.cnt; simp; omega, fun e he => h.fit.its e (List.mem_of_mem_drop he)⟩
  have HMIN := hide hmin
  have HKN := hide hkn
  clear h hn hr hs ht hs0 hk hc1 hc2 hc3 hmin hkn
  go_enter Try.func14, Try.ntmps14
  go_wp2_with fail
  refine region_grow Try.mixed [Is (.pointer (some ⟨p, 0, none⟩)), Is (.pointer (some ⟨p, 0, none⟩)), Is (.pointer (some ⟨p, 1, none⟩)), Is (.int .i64 s), Is (.pointer (some ⟨p, 0, none⟩)), Is (.int .i64 n), Is (.int .i64 k), Is (.int .i64 k)] [[(0, none)], [(5, some 0)], [(6, some 1)], [(7, some 2)], [(0, none)], [(9, some 4)], [(8, some 3), (10, some 5)], [(11, some 6)]] (by kernel_rfl) ?_ ?_ ?_
  · simp only [List.mem_cons, List.not_mem_nil, or_false]
    intro R hR
    rcases hR with rfl | rfl | rfl | rfl | rfl | rfl | rfl | rfl <;> first | exact stable_is _
  · refine steps_cons (fun a w hk hn => ?_) ?_
    · have h0 : a.eval (.tmp 0) = .pointer (some ⟨p, 0, none⟩) := hn.1
      clear hn
      refine wants_plain rfl ?_
      exact grown_move (.tmp 0) rfl h0
    refine steps_cons (fun a w hk hn => ?_) ?_
    · have h5 : a.eval (.tmp 5) = .pointer (some ⟨p, 0, none⟩) := hn.1
      clear hn
      refine wants_plain rfl ?_
      refine grown_run (v := .pointer (some ⟨p, 0, none⟩)) ?_ (Kp.refl _ _) rfl
      obtain ⟨ρ, hρ, hc, hf, hg⟩ := eval_is a
      rw [hρ] at h5 ⊢
      simp [go_sem, h5]
    refine steps_cons (fun a w hk hn => ?_) ?_
    · have h6 : a.eval (.tmp 6) = .pointer (some ⟨p, 0, none⟩) := hn.1
      clear hn
      refine wants_plain rfl ?_
      refine grown_run (v := .pointer (some ⟨p, 1, none⟩)) ?_ (Kp.refl _ _) rfl
      obtain ⟨ρ, hρ, hc, hf, hg⟩ := eval_is a
      rw [hρ] at h6 ⊢
      simp [go_sem, h6]
    refine steps_cons (fun a w hk hn => ?_) ?_
    · have h7 : a.eval (.tmp 7) = .pointer (some ⟨p, 1, none⟩) := hn.1
      clear hn
      refine wants_plain rfl ?_
      refine grown_run (v := .int .i64 s) ?_ (Kp.refl _ _) rfl
      have hcell : w.cell? ⟨p, 1, none⟩ = some (.int .i64 s) := by rw [cell_of_row w p 1 _ _ _ (unhide HP w hk)]; rfl
      obtain ⟨ρ, hρ, hc, hf, hg⟩ := eval_is a
      rw [hρ] at h7 ⊢
      simp [go_sem, h7, hcell]
    refine steps_cons (fun a w hk hn => ?_) ?_
    · have h0 : a.eval (.tmp 0) = .pointer (some ⟨p, 0, none⟩) := hn.1
      clear hn
      refine wants_plain rfl ?_
      exact grown_move (.tmp 0) rfl h0
    refine steps_cons (fun a w hk hn => ?_) ?_
    · have h9 : a.eval (.tmp 9) = .pointer (some ⟨p, 0, none⟩) := hn.1
      clear hn
      refine wants_plain rfl ?_
      refine grown_call (f := 13) rfl Try.func13 (by kernel_rfl) (by kernel_rfl) ?_
      simp only [List.map_toArray, List.map_cons, List.map_nil, h9]
      refine (unhide HQ w hk).mono ?_
      rintro e w' ⟨rfl, rfl⟩
      exact ⟨_, rfl, Kp.refl _ _, rfl⟩
    refine steps_cons (fun a w hk hn => ?_) ?_
    · have h8 : a.eval (.tmp 8) = .int .i64 s := hn.1
      have h10 : a.eval (.tmp 10) = .int .i64 n := hn.2.1
      clear hn
      refine wants_plain rfl ?_
      refine grown_run (v := .int .i64 k) ?_ (Kp.refl _ _) rfl
      obtain ⟨ρ, hρ, hc, hf, hg⟩ := eval_is a
      rw [hρ] at h8 h10 ⊢
      simp [go_sem, h8, h10, HMIN.out]
    refine steps_cons (fun a w hk hn => ?_) ?_
    · have h11 : a.eval (.tmp 11) = .int .i64 k := hn.1
      clear hn
      refine wants_plain rfl ?_
      exact grown_assign (.tmp 11) rfl h11
    exact trivial
  intro W1 hkW1
  rintro _ rfl
  rintro _ rfl
  rintro _ rfl
  rintro _ rfl
  rintro _ rfl
  rintro _ rfl
  rintro _ rfl
  rintro _ rfl
  refine fin_nil ?_
  simp only [Act.put, List.set_cons_zero, List.set_cons_succ, List.setIfInBounds_toArray]
  have K1 := hide ((kp_drew w).trans hkW1)
  have H1 := hide (H.out.keptN K1.out)
  have x0 := H1.out.here.c3
  have run1 := fun w => run_headW (ao := ao) (n := n) (c := c) k w HKN.out HC1.out HC3.out
  have HT := hide (btexts_any base ao k c (q.ms.take k) W1 (H1.out.row.take k HKN.out) HCN.out HIT.out)
  have run2 := fun w => run_restW (ao := ao) (n := n) (c := c) k w HKN.out HC1.out HC3.out
  clear HP HQ hkW1 H HMIN
  go_wp2_with (go_at_call 20; refine HT.out.mono ?_; rintro e w2 ⟨ao', m', c', rfl, A⟩; have HA := hide A; clear A HT; obtain ⟨w3, hcl, r3, k3⟩ := run_clearT 52 43 Try.underlying43 Try.infoWt 0 base ao n c k q.ms w2 (H1.out.row.keptN HA.out.kp) HKN.out; have hcl' : ∀ ty, (Builtin.clear_ #[43] ty #[.slice ao k c]).run Try.prog w2 = .ok (.tuple #[]) w3 := fun ty => hcl; have x2 := (H1.out.keptN HA.out.kp).here.c3; have hV3 := own_rest ao n c k; obtain ⟨a2, ha2⟩ : ∃ a2, a2 = (if c = k then ao else ao.map (·.add (k * 2))) := ⟨_, rfl⟩; obtain ⟨n2, hn2⟩ : ∃ n2, n2 = n - k := ⟨_, rfl⟩; obtain ⟨c2, hc2⟩ : ∃ c2, c2 = c - k := ⟨_, rfl⟩; rw [← ha2, ← hn2, ← hc2] at hV3 run2 r3; obtain ⟨Q3, D3, x3, f3⟩ := (H1.out.keptN HA.out.kp).put (q' := { q with ms := q.ms.drop k }) r3 ⟨k3, fun i hi => .inl (by rw [← hV3]; exact hi)⟩ rfl rfl rfl HF.out; have HQ3 := hide Q3; have HD3 := hide D3; clear ha2 hn2 hc2 hV3 r3 k3 Q3 D3 hcl)
  go_ret
  refine ⟨ao', m', c', _, rfl, ?_, HQ3.out, ?_⟩
  · exact (HA.out.1.kept HD3.out.1 (fun i hi => H1.out.lt i hi)).lower K1.out.size
  · exact (DSt.mid _ (K1.out.trans HA.out.kp)).trans HD3.out
end Go.Proofs.Ytfepkcjelecpkaa

/-
  A queue made since w0, with whatever row; the law package's known.
-/
namespace Go.Proofs.Ytfepkcjelecpkaa
open Go.ChangeShapes Go.WideShapes Go.ChangeAt Go.RowKit
open Go.Proofs
open Go.Deep
set_option linter.unusedVariables false
section
variable {w0 w w' : World} {p : Nat} {q q' : Qd} {v v' : Value}
theorem nb_full (h : Nb w0 w p q) (vb : Value) (now : Int) (hf : q.room ≤ q.ms.length) :
    Calls Try.prog 12 #[.pointer (some ⟨p, 0, none⟩), vb, .int .i64 now] w fun e w' => e = .returned (.int .i64 20) ∧ Kp [] w w' ∧ Nb w0 w' p q := by
  obtain ⟨v, g⟩ := h.ex
  refine (bput_full _ p v vb q now w g hf).mono ?_
  rintro e w' ⟨rfl, K⟩
  exact ⟨rfl, K, h.keptN K⟩
theorem nb_take (h : Nb w0 w p q) (k : Nat) (hk : k = min q.size.toNat q.ms.length) (q' : Qd) (hq : q' = { q with ms := q.ms.drop k }) :
    Calls Try.prog 14 #[.pointer (some ⟨p, 0, none⟩)] w fun e w' => ∃ ao c, e = .returned (.slice ao k c) ∧ Tl w.heap.size w' (.slice ao k c) ((q.ms.take k).map It.bs) ∧ Nb w0 w' p q' ∧ Off w w' := by
  obtain ⟨v, g⟩ := h.ex
  subst hq
  refine (btake_any _ p v q w g k hk).mono ?_
  rintro e w' ⟨ao, m, c, v', rfl, T, Q, D⟩
  have hm : m = k := by
    obtain ⟨_, _, e⟩ := T.shape
    injection e with _ e2 _
    rw [e2]; simp; omega
  subst hm
  exact ⟨ao, c, rfl, T, h.step g Q D⟩
end
end Go.Proofs.Ytfepkcjelecpkaa
