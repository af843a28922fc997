/-
  slices.IndexFunc and slices.DeleteFunc over the queue, with Cancel's own function.
-/
import Derived.Test.YtlmbheobaiibeaaQPop
namespace Go.Proofs.Ytlmbheobaiibeaa
open Go.RowKit Go.Sort Go.Lib

set_option maxHeartbeats 1000000 in
theorem del_any (b : Nat) (x : Int) (e : En) (w : World) (hc : w.cell? ⟨b, 0, none⟩ = some (.int .i64 x)) :
    Calls Try.prog 25 #[.agg #[.int .i64 e.at_, .int .i64 e.num, .int .i64 e.what], .pointer (some ⟨b, 0, none⟩)] w fun r w' => r = .returned (.bool (e.what == x)) ∧ Kp [] w w' := by
  have hlt := World.block_lt_of_cell? w _ hc
  have hca : ∀ o, (w.alloc o).cell? ⟨b, 0, none⟩ = some (.int .i64 x) := fun o => (World.cell?_alloc_lt _ _ _ (by exact hlt)).trans hc
  go_enter Try.func25, Try.ntmps25
  go_wp2
  go_ret
  exact ⟨rfl, (Kp.refl [] w).alloc _⟩

set_option maxHeartbeats 2000000 in
set_option maxRecDepth 100000 in
theorem indexFunc_any (p b : Nat) (v : Value) (d : Array En) (k x : Int) (w : World) (h : Qs w p v d k) (hc : w.cell? ⟨b, 0, none⟩ = some (.int .i64 x)) (hn : d.size ≤ 1000000) :
    Calls Try.prog 31 #[v, .func (.func 25) #[] #[.pointer (some ⟨b, 0, none⟩)]] w fun r w' =>
      ((∃ i : Nat, r = .returned (.int .i64 i) ∧ i < d.size ∧ d[i]!.what = x ∧ ∀ j, j < i → d[j]!.what ≠ x) ∨ (r = .returned (.int .i64 (-1)) ∧ ∀ j, j < d.size → d[j]!.what ≠ x)) ∧ Kp [] w w' := by
  rcases h.own.2 with ⟨rfl, h0⟩ | ⟨g, cap, cur, rfl, hrest⟩
  · have HZ := hide h0
    clear h h0
    go_enter Try.func31, Try.ntmps31
    go_wp2
    go_loopg [8] 0 (fun kx s8 wr => s8 = .int .i64 0 ∧ wr = w)
    case atStart => exact ⟨rfl, rfl⟩
    case round =>
      obtain ⟨rfl, rfl⟩ := hrel
      go_wp2
      go_ret
      exact ⟨.inr ⟨rfl, fun j hj => by have := HZ.out; omega⟩, Kp.refl _ _⟩
  · clear hrest
    obtain ⟨hsz, ro, hpg⟩ := h.ro
    obtain ⟨n, hnn⟩ : ∃ n, n = d.size := ⟨_, rfl⟩
    rw [← hnn] at ro hn ⊢
    have HC := hide hc
    clear h hsz hc hnn
    go_enter Try.func31, Try.ntmps31
    go_wp2
    go_loopg [8] n (fun kx s8 wr => ∃ i : Nat, s8 = .int .i64 i ∧ i ≤ n ∧ n - i ≤ kx ∧ Hid (∀ j, j < i → d[j]!.what ≠ x) ∧ Hid (Kp [] w wr))
    case atStart => exact ⟨0, rfl, Nat.zero_le _, by omega, fun j hj => by omega, Kp.refl _ _⟩
    case round =>
      obtain ⟨i, rfl, hi, hkx, HF, HK⟩ := hrel
      by_cases hin : i < n
      · have hiz : (i : Int) < (n : Int) := by omega
        obtain ⟨c0, c1, c2⟩ := (ro.kept HK.out).cell i hin
        obtain ⟨e, he⟩ : ∃ e, e = d[i]! := ⟨_, rfl⟩
        rw [← he] at c0 c1 c2
        have hd := del_any b x e wr (HK.out.cell HC.out (by simp))
        have HE := hide he
        clear he
        cases hb : (e.what == x) with
        | true =>
          rw [hb] at hd
          go_wp2_with (go_at_call 25; refine hd.mono ?_; rintro r w1 ⟨rfl, k1⟩)
          go_ret
          exact ⟨.inl ⟨i, rfl, hin, by rw [← HE.out]; simpa using hb, HF.out⟩, HK.out.trans k1⟩
        | false =>
          rw [hb] at hd
          go_wp2_with (go_at_call 25; refine hd.mono ?_; rintro r w1 ⟨rfl, k1⟩)
          go_roundg (n - (i + 1))
          case measure => omega
          case rel =>
            refine ⟨i + 1, by go_num, by omega, Nat.le_refl _, fun j hj => ?_, HK.out.trans k1⟩
            by_cases hji : j = i
            · subst hji; rw [← HE.out]; simpa using hb
            · exact HF.out j (by omega)
      · have hiz : ¬ (i : Int) < (n : Int) := by omega
        go_wp2
        go_ret
        exact ⟨.inr ⟨rfl, fun j hj => HF.out j (by omega)⟩, HK.out⟩

theorem zero_entry (w : World) : (zeroValue 53).run Try.prog w = .ok (.agg #[.int .i64 0, .int .i64 0, .int .i64 0]) w := by kernel_rfl
theorem zeros_ok (n : Nat) : ∀ u ∈ (Builtin.zeroCells (Value.agg #[.int .i64 0, .int .i64 0, .int .i64 0]).cells n).toList, u.oneCell' = true := by
  intro u hu
  have : u ∈ Builtin.zeroCells (Value.agg #[.int .i64 0, .int .i64 0, .int .i64 0]).cells n := by simpa using hu
  unfold Builtin.zeroCells at this
  simp [Value.cells] at this
  obtain ⟨i, _, rfl⟩ := this
  have : i % 3 = 0 ∨ i % 3 = 1 ∨ i % 3 = 2 := by omega
  rcases this with h | h | h <;> simp [h, Value.oneCell']
/-- clear of a row's end: its beginning stands. -/
theorem clear_row {w : World} {base g cap n i c : Nat} {xs : List Value} (ty : TypeId) (h : w.ownsRow base 53 3 (.slice (some ⟨g, 0, none⟩) n cap) n xs) (hi : i < n) :
    ∃ w', (Builtin.clear_ #[47] ty #[.slice (some ⟨g, i * 3, none⟩) (n - i) c]).run Try.prog w = .ok (.tuple #[]) w' ∧ w'.ownsRow base 53 3 (.slice (some ⟨g, 0, none⟩) i cap) i (xs.take (i * 3)) ∧ Kp [g] w w' := by
  rcases h.2 with ⟨h0, _⟩ | ⟨g', cap', cur, hv, hb, hg, hnc, hcm, hcs, htake⟩
  · cases h0
  · cases hv
    obtain ⟨Z, hZ⟩ : ∃ Z, Z = (Builtin.zeroCells (Value.agg #[.int .i64 0, .int .i64 0, .int .i64 0]).cells (n - i)).toList := ⟨_, rfl⟩
    have hz : Z.length = (n - i) * 3 := by rw [hZ]; simp [size_zeroCells, Value.cells]
    have hok : ∀ u ∈ Z, u.oneCell' = true := by rw [hZ]; exact zeros_ok _
    have hst := run_storeCells_at (P := Try.prog) g (i * 3) 53 Z 0 cur w hg (by rw [hz, hcs]; omega) hok
    rw [Nat.add_zero] at hst
    obtain ⟨m, hm⟩ : ∃ m, n - i = m + 1 := ⟨n - i - 1, by omega⟩
    have htk : (cur.toList.take (i * 3)).length = i * 3 := by rw [List.length_take, Array.length_toList, hcs]; omega
    refine ⟨w.setRow g (cur.toList.take (i * 3) ++ Z ++ cur.toList.drop (i * 3 + Z.length)).toArray, ?_, ⟨?_, .inr ⟨g, cap, (cur.toList.take (i * 3) ++ Z ++ cur.toList.drop (i * 3 + Z.length)).toArray, rfl, hb, setRow_heap w g cur _ _ _ hg, by omega, hcm, ?_, ?_⟩⟩, ?_⟩
    · rw [hZ, hm] at hst ⊢
      simp only [Builtin.clear_]
      simp [run_underlying (show Try.prog.underlying 47 = some (.slice 53) by kernel_rfl), hst]
    · rw [List.length_take, h.1]; omega
    · simp only [List.size_toArray, List.length_append, htk, List.length_drop, Array.length_toList, hcs, hz]
      omega
    · rw [List.append_assoc, List.take_append_of_le_length (by rw [htk]; omega), List.take_of_length_le (by rw [htk]; omega), ← htake, List.take_take, Nat.min_eq_left (by omega)]
    · exact ⟨rfl, rfl, rfl, by simp [World.setRow], fun k _ hk => setRow_other w g k _ (fun e => hk (by simp [e]))⟩

/-- Those that are not that thing. -/
def keepW (x : Int) (e : En) : Bool := decide (e.what ≠ x)
theorem take_snoc (d : Array En) (j : Nat) (h : j < d.size) : d.toList.take (j + 1) = d.toList.take j ++ [d[j]!] := by
  rw [List.take_add_one]
  simp [h]
theorem box3_cells (w : World) (e : En) : (w.alloc (.cells #[.int .i64 e.at_, .int .i64 e.num, .int .i64 e.what] 53)).cell? ⟨w.heap.size, 0, none⟩ = some (.int .i64 e.at_) ∧
    (w.alloc (.cells #[.int .i64 e.at_, .int .i64 e.num, .int .i64 e.what] 53)).cell? ⟨w.heap.size, 1, none⟩ = some (.int .i64 e.num) ∧
    (w.alloc (.cells #[.int .i64 e.at_, .int .i64 e.num, .int .i64 e.what] 53)).cell? ⟨w.heap.size, 2, none⟩ = some (.int .i64 e.what) := by
  refine ⟨?_, ?_, ?_⟩ <;> (rw [World.cell?_alloc_at _ _ _ _ rfl]; rfl)
theorem put_set (d : Array En) (i : Nat) (e : En) (hi : i < d.size) : (d.setIfInBounds i e).toList.take (i + 1) = d.toList.take i ++ [e] := by
  rw [Array.toList_setIfInBounds, List.take_add_one, List.take_set_of_le (Nat.le_refl _)]
  simp [hi]

theorem run_tail (a : Addr) (n c q : Nat) (w : World) (h1 : q ≤ n) (h2 : q < c) : (Instr.sliceAt 47 (.slice (some a) n c) (some (.int .i64 q)) none none).run Try.prog w = .ok (.slice (some (a.add (q * 3))) (n - q) (c - q)) w := by
  have e2 : (q : Int) ≤ (n : Int) := by omega
  have hc : c ≠ q := by omega
  simp [go_sem, e2, hc]

set_option maxHeartbeats 4000000 in
set_option maxRecDepth 100000 in
theorem deleteFunc_any (p b : Nat) (v : Value) (d : Array En) (k x : Int) (w : World) (h : Qs w p v d k) (hc : w.cell? ⟨b, 0, none⟩ = some (.int .i64 x)) (hbv : v.ownBlock ≠ some b) (hn : d.size ≤ 1000000) :
    Calls Try.prog 24 #[v, .func (.func 25) #[] #[.pointer (some ⟨b, 0, none⟩)]] w fun r w' =>
      ∃ v', r = .returned v' ∧ w'.ownsRow (p + 1) 53 3 v' (d.toList.filter (keepW x)).length (flat (d.toList.filter (keepW x)).toArray) ∧ Kp v.ownBlock.toList w w' ∧ v'.ownBlock = v.ownBlock := by
  have hI := indexFunc_any p b v d k x w h hc hn
  have ALL : Hid ((∀ j, j < d.size → d[j]!.what ≠ x) → ∀ w', Kp [] w w' → w'.ownsRow (p + 1) 53 3 v (d.toList.filter (keepW x)).length (flat (d.toList.filter (keepW x)).toArray)) := fun ha w' kk => by
    have e : d.toList.filter (keepW x) = d.toList := List.filter_eq_self.2 (fun a ha' => by
      obtain ⟨i, hi, rfl⟩ := List.getElem_of_mem ha'
      have := ha i (by simpa using hi)
      simp only [Array.length_toList] at hi
      simpa [keepW, hi] using this)
    rw [e, Array.length_toList, Array.toArray_toList]
    exact kk.owns h.own (by simp)
  rcases h.own.2 with ⟨rfl, h0⟩ | ⟨g, cap, cur, rfl, hrest⟩
  · have HZ := hide h0
    clear h h0 hbv
    go_enter Try.func24, Try.ntmps24
    go_wp2_with (go_at_call 31; refine hI.mono ?_; rintro r w1 ⟨hr, k1⟩; rcases hr with ⟨i, rfl, hi, _⟩ | ⟨rfl, ha⟩)
    · exfalso; have := HZ.out; omega
    · go_ret
      exact ⟨_, rfl, ALL.out ha _ k1, k1.mono (by simp), rfl⟩
  · clear hrest
    obtain ⟨hsz, ro, hpg⟩ := h.ro
    obtain ⟨n, hnn⟩ : ∃ n, n = d.size := ⟨_, rfl⟩
    rw [← hnn] at ro hn hI
    have hgb : b ≠ g := fun e => hbv (by simp [Value.ownBlock, e])
    have HO := hide h.own
    have HC := hide hc
    have HN := hide hnn
    have hcap := ro.cap_le
    rw [← hnn] at HO ALL ⊢
    clear h hsz hc hnn hbv
    go_enter Try.func24, Try.ntmps24
    go_wp2_with (go_at_call 31; refine hI.mono ?_; rintro r w1 ⟨hr, k1⟩; rcases hr with ⟨i, rfl, hi, hix, hia⟩ | ⟨rfl, ha⟩)
    · have T0 : Hid (d.toList.take i = (d.toList.take (i + 1)).filter (keepW x)) := by
        show _ = _
        rw [take_snoc d i (by rw [← HN.out]; exact hi), List.filter_append, List.filter_eq_self.2 (fun a ha => by
          obtain ⟨j, hj, rfl⟩ := List.getElem_of_mem ha
          simp only [List.length_take, Array.length_toList] at hj
          have hh := hia j (by omega)
          have hjd : j < d.size := by omega
          simpa [keepW, hjd] using hh)]
        simp [keepW, hix]
      have S0 := (St.start ro).on k1
      clear hI hix hia ro k1
      go_loopg [5, 6] n (fun kx s5 s6 wr => ∃ (i' j : Nat) (dk : Array En), s5 = .int .i64 i' ∧ s6 = .int .i64 j ∧ i' < j ∧ j ≤ n ∧ n - j ≤ kx ∧ St g cap n w wr dk ∧ Hid (dk.toList.take i' = (d.toList.take j).filter (keepW x) ∧ ∀ t, j ≤ t → t < n → dk[t]! = d[t]!))
      case atStart => exact ⟨i, i + 1, d, rfl, by go_num, by omega, by omega, by omega, S0, ⟨T0.out, fun _ _ _ => rfl⟩⟩
      case round =>
        obtain ⟨i', j, dk, rfl, rfl, hij, hjn, hkx, S1, HT⟩ := hrel
        clear S0 T0 hi
        by_cases hjl : j < n
        · have hjz : (j : Int) < (n : Int) := by omega
          obtain ⟨c0, c1, c2⟩ := S1.ro.cell j hjl
          have hfz := S1.ro.frozen
          obtain ⟨e, he⟩ : ∃ e, e = dk[j]! := ⟨_, rfl⟩
          rw [← he] at c0 c1 c2
          have HE := hide he
          clear he
          have S2 := S1.on ((Kp.refl [] wr).alloc (.cells #[.int .i64 e.at_, .int .i64 e.num, .int .i64 e.what] 53))
          have hd := del_any b x e _ (S2.kp.cell HC.out (by simpa using hgb))
          obtain ⟨b0, b1, b2⟩ := box3_cells wr e
          have HB := hide (And.intro b0 (And.intro b1 b2))
          clear b0 b1 b2 S1
          have hlt : j < dk.size := by rw [S2.ro.size]; exact hjl
          have hld : j < d.size := by rw [← HN.out]; exact hjl
          cases hb : (e.what == x) with
          | true =>
            rw [hb] at hd
            go_wp2_with (go_at_call 25; refine hd.mono ?_; rintro r w2 ⟨rfl, k2⟩)
            go_roundg (n - (j + 1))
            case measure => omega
            case rel =>
              refine ⟨i', j + 1, dk, rfl, by go_num, by omega, by omega, Nat.le_refl _, S2.on k2, ?_, fun t h1 h2 => HT.out.2 t (by omega) h2⟩
              have hw : e.what = x := by simpa using hb
              rw [take_snoc d j hld, List.filter_append, ← HT.out.1, ← HT.out.2 j (Nat.le_refl _) hjl, ← HE.out]
              simp [keepW, hw]
          | false =>
            rw [hb] at hd
            have hin : i' < n := by omega
            go_wp2_with (go_at_call 25; refine hd.mono ?_; rintro r w2 ⟨rfl, k2⟩; have S3 := S2.on k2; have q0 := k2.cell HB.out.1 (by simp); have q1 := k2.cell HB.out.2.1 (by simp); have q2 := k2.cell HB.out.2.2 (by simp); obtain ⟨z0, z1, z2⟩ := S3.ro.cell i' hin; have fz := S3.ro.frozen)
            go_roundg (n - (j + 1))
            case measure => omega
            case rel =>
              have hw : e.what ≠ x := by simpa using hb
              have kset := ((S3.kp.setCell (p := ⟨g, i' * 3, none⟩) (.inl (by simp)) (.int .i64 e.at_)).setCell (p := ⟨g, i' * 3 + 1, none⟩) (.inl (by simp)) (.int .i64 e.num)).setCell (p := ⟨g, i' * 3 + 2, none⟩) (.inl (by simp)) (.int .i64 e.what)
              refine ⟨i' + 1, j + 1, dk.setIfInBounds i' e, by go_num, by go_num, by omega, by omega, Nat.le_refl _, ⟨kset, S3.ro.put i' hin e⟩, ?_, fun t h1 h2 => ?_⟩
              · rw [put_set dk i' e (by omega), take_snoc d j hld, List.filter_append, ← HT.out.1, ← HT.out.2 j (Nat.le_refl _) hjl, ← HE.out]
                simp [keepW, hw]
              · rw [← HT.out.2 t (by omega) h2]
                have ht : t < dk.size := by rw [S3.ro.size]; exact h2
                simp [ht, show ¬ i' = t by omega]
        · have hjz : ¬ (j : Int) < (n : Int) := by omega
          have hjn' : j = n := by omega
          have hin : i' < n := by omega
          have hsl := run_tail ⟨g, 0, none⟩ n cap i' wr (by omega) (by omega)
          obtain ⟨w2, hcl, own2, k2⟩ := clear_row (c := cap - i') 0 S1.ro.own hin
          have hcl' : ∀ ty, (Builtin.clear_ #[47] ty #[.slice (some ⟨g, i' * 3, none⟩) (n - i') (cap - i')]).run Try.prog wr = .ok (.tuple #[]) w2 := fun ty => hcl
          rw [show ((⟨g, 0, none⟩ : Addr).add (i' * 3)) = ⟨g, i' * 3, none⟩ from by simp [Addr.add_lit]] at hsl
          have hi2 : (i' : Int) ≤ (cap : Int) := by omega
          have FIN : Hid (w2.ownsRow (p + 1) 53 3 (.slice (some ⟨g, 0, none⟩) i' cap) (d.toList.filter (keepW x)).length (flat (d.toList.filter (keepW x)).toArray)) := by
            have e1 : dk.toList.take i' = d.toList.filter (keepW x) := by
              rw [HT.out.1, List.take_of_length_le (by rw [Array.length_toList, ← HN.out]; omega)]
            have e2 : (d.toList.filter (keepW x)).length = i' := by rw [← e1, List.length_take, Array.length_toList, S1.ro.size]; omega
            rw [e2, ← e1]
            have e3 : (flat dk).take (i' * 3) = flat (dk.toList.take i').toArray := by
              unfold flat
              rw [← List.take_append_drop i' dk.toList, List.flatMap_append]
              have l1 : ((dk.toList.take i').flatMap En.cells).length = i' * 3 := by
                have := flat_length (dk.toList.take i').toArray
                unfold flat at this
                rw [this]
                simp only [List.size_toArray, List.length_take, Array.length_toList, S1.ro.size]
                omega
              rw [List.take_append_of_le_length (by rw [l1]; omega), List.take_of_length_le (by rw [l1]; omega)]
              simp
            rw [← e3]
            exact owns_rebase own2 (fun i hi => by simp [Value.ownBlock] at hi; subst hi; omega)
          have KK := hide (S1.kp.trans k2)
          clear own2 k2 hcl S1 hjn'
          go_wp2
          go_ret
          exact ⟨_, rfl, FIN.out, KK.out.mono (by simp [Value.ownBlock]), rfl⟩
    · go_ret
      exact ⟨_, rfl, ALL.out ha _ k1, k1.mono (by simp), rfl⟩
end Go.Proofs.Ytlmbheobaiibeaa
